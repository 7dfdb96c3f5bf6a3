/- The contract of fire.Of: a rule's firing in a year, or that there is none; nothing that was in memory changes. -/
import Derived.Test.YtblamffdlclomaaDoorFrP
namespace Go.Proofs.YtblamffdlclomaaDoor
open Go Go.RowKit

def rV (r : RV) : Value := .agg (cR r)
def noF : FV := ⟨0, 0, 0, []⟩
theorem BlkN.two (w : World) (o : Obj) (C : Array Value) (t : TypeId) : BlkN w (w.heap.size + 1) C t ((w.alloc o).alloc (.cells C t)) := by
  have := BlkN.make ((Below.refl w.heap.size w).alloc (Nat.le_refl _) o) C t
  rwa [World.size_alloc] at this
/-- Two blocks of the call's own, the first one's cells known. -/
theorem BlkN.fst {w : World} (C : Array Value) (t : TypeId) (o : Obj) : BlkN w w.heap.size C t ((w.alloc (.cells C t)).alloc o) := (BlkN.make (Below.refl w.heap.size w) C t).more o

set_option maxRecDepth 20000 in
theorem fof_out (r : RV) (y : Int) (w : World) (h : ¬ (r.fr ≤ y ∧ y ≤ r.tl)) :
    Calls Tryd.prog 10 #[rV r, .int .i64 y] w fun e w' => e = .returned (.tuple #[fvV noF, .bool false]) ∧ Below w.heap.size w w' := by
  have X := Lib.hid (BlkN.fst (w := w) (cR r) 44 (.cells #[.int .i64 0, .int .i64 0, .int .i64 0, .string ⟨#[]⟩] 36))
  have Z := Lib.hid (BlkN.two w (.cells (cR r) 44) #[.int .i64 0, .int .i64 0, .int .i64 0, .string ⟨#[]⟩] 36)
  obtain ⟨x0, x1, x2, x3, x4, x5, x6, x7, x8, x9, x10⟩ := cells11 X.out.blk
  unfold rV cR
  by_cases h1 : y < r.fr
  · clear h
    go_enter Tryd.func10, Tryd.ntmps10
    repeat (first | go_values | go_skip | go_guarded | go_step | go_upon | go_back)
    refine Z.out.ret fun W' B => ?_
    obtain ⟨c0, c1, c2, c3⟩ := cel4 B.blk
    refine bodyPost_ret (by simp [results, Tryd.results10, go_sem, c0, c1, c2, c3]; rfl) rfl ⟨rfl, B.bel⟩
  · have h2 : y > r.tl := by omega
    clear h
    go_enter Tryd.func10, Tryd.ntmps10
    repeat (first | go_values | go_skip | go_guarded | go_step | go_upon | go_back)
    refine Z.out.ret fun W' B => ?_
    obtain ⟨c0, c1, c2, c3⟩ := cel4 B.blk
    refine bodyPost_ret (by simp [results, Tryd.results10, go_sem, c0, c1, c2, c3]; rfl) rfl ⟨rfl, B.bel⟩

set_option maxRecDepth 20000 in
theorem fof_no (r : RV) (y : Int) (w : World) (hA : LaidF w) (h1 : r.fr ≤ y) (h2 : y ≤ r.tl) (hn : ¬ inW r.dk r.dw r.dn y r.mo) :
    Calls Tryd.prog 10 #[rV r, .int .i64 y] w fun e w' => e = .returned (.tuple #[fvV noF, .bool false]) ∧ Below w.heap.size w w' := by
  have X := Lib.hid (BlkN.fst (w := w) (cR r) 44 (.cells #[.int .i64 0, .int .i64 0, .int .i64 0, .string ⟨#[]⟩] 36))
  have Z := Lib.hid (BlkN.two w (.cells (cR r) 44) #[.int .i64 0, .int .i64 0, .int .i64 0, .string ⟨#[]⟩] 36)
  obtain ⟨x0, x1, x2, x3, x4, x5, x6, x7, x8, x9, x10⟩ := cells11 X.out.blk
  have HA := Lib.hid hA
  have IN := Lib.hid fun W (hW : LaidF W) => din_is r.dk r.dw r.dn y r.mo 0 0 0 10 W hW (.inr ⟨rfl, rfl, rfl, rfl, hn⟩)
  have d1 : ¬ y < r.fr := by omega
  have d2 : ¬ y > r.tl := by omega
  clear hA hn h1 h2
  unfold rV cR
  go_enter Tryd.func10, Tryd.ntmps10
  repeat (first
    | (go_at_call 17; refine (IN.out _ (HA.out.next X.out.bel)).mono ?_; (rintro e w1 ⟨rfl, k1⟩)
       have Z1 := Lib.hid (Z.out.next k1)
       have Z2 := Lib.hid (Z1.out.more (.cells #[.int .i64 0, .int .i64 0, .int .i64 0] 55))
       obtain ⟨c0, c1, c2, c3⟩ := cel4 Z2.out.blk
       have f0 := frz (j := 0) Z2.out.blk
       have f1 := frz (j := 1) Z2.out.blk
       have f2 := frz (j := 2) Z2.out.blk
       have f3 := frz (j := 3) Z2.out.blk
       clear k1 x0 x1 x2 x3 x4 x5 x6 x7 x8 x9 x10
       simp only [])
    | go_values | go_skip | go_guarded | go_step | go_upon | go_back)
  refine (Z2.out.set4).ret fun W' B => ?_
  obtain ⟨c0, c1, c2, c3⟩ := cel4 B.blk
  refine bodyPost_ret (by simp [results, Tryd.results10, go_sem, c0, c1, c2, c3]; rfl) rfl ⟨rfl, B.bel⟩

/-- Two blocks of the call's own: what lies in both, behind whatever call. -/
structure TwoB (w : World) (g1 : Nat) (C1 : Array Value) (t1 : TypeId) (g2 : Nat) (C2 : Array Value) (t2 : TypeId) (W : World) : Prop where
  a : BlkN w g1 C1 t1 W
  b : BlkN w g2 C2 t2 W
theorem TwoB.next {w W W1 : World} {g1 g2 : Nat} {C1 C2 : Array Value} {t1 t2 : TypeId} (h : TwoB w g1 C1 t1 g2 C2 t2 W) (k : Below W.heap.size W W1) : TwoB w g1 C1 t1 g2 C2 t2 W1 := ⟨h.a.next k, h.b.next k⟩
theorem TwoB.more {w W : World} {g1 g2 : Nat} {C1 C2 : Array Value} {t1 t2 : TypeId} (h : TwoB w g1 C1 t1 g2 C2 t2 W) (o : Obj) : TwoB w g1 C1 t1 g2 C2 t2 (W.alloc o) := ⟨h.a.more o, h.b.more o⟩

set_option maxRecDepth 20000 in
theorem fof_yes (r : RV) (y a b c T : Int) (w : World) (hA : LaidF w) (h1 : r.fr ≤ y) (h2 : y ≤ r.tl) (hs1 : -604800 < r.sc) (hs2 : r.sc < 604800) (hn : inW r.dk r.dw r.dn y r.mo) (hd : okD a b c ∧ dayN a b c = tgtD r.dk r.dw r.dn y r.mo) (hT : dayN a b c * 86400 + r.sc = T) :
    Calls Tryd.prog 10 #[rV r, .int .i64 y] w fun e w' => e = .returned (.tuple #[fvV ⟨T, r.ck, r.sv, r.lt⟩, .bool true]) ∧ Below w.heap.size w w' := by
  have X : Hid (TwoB w w.heap.size (cR r) 44 (w.heap.size + 1) #[.int .i64 0, .int .i64 0, .int .i64 0, .string ⟨#[]⟩] 36 ((w.alloc (.cells (cR r) 44)).alloc (.cells #[.int .i64 0, .int .i64 0, .int .i64 0, .string ⟨#[]⟩] 36))) :=
    ⟨BlkN.fst (w := w) (cR r) 44 _, BlkN.two w _ _ _⟩
  obtain ⟨x0, x1, x2, x3, x4, x5, x6, x7, x8, x9, x10⟩ := cells11 X.out.a.blk
  have HA := Lib.hid hA
  have IN := Lib.hid fun W (hW : LaidF W) => din_is r.dk r.dw r.dn y r.mo a b c 0 W hW (.inl ⟨rfl, hn, hd.1, hd.2⟩)
  have JN : Hid (∀ W, LaidF W → Calls Tryd.prog 18 #[.agg #[.int .i64 a, .int .i64 b, .int .i64 c], .int .i64 r.sc] W fun e w' => e = .returned (.tuple #[.int .i64 T, .int .i64 0]) ∧ Below W.heap.size W w') := fun W hW => by
    rw [← hT]; exact Join_yes a b c r.sc W hW.ah hd.1 hs1 hs2
  have d1 : ¬ y < r.fr := by omega
  have d2 : ¬ y > r.tl := by omega
  clear hA hn h1 h2 hs1 hs2 hd hT
  unfold rV cR
  go_enter Tryd.func10, Tryd.ntmps10
  repeat (first
    | (go_at_call 17; refine (IN.out _ (HA.out.next X.out.a.bel)).mono ?_; (rintro e w1 ⟨rfl, k1⟩)
       have X1 := Lib.hid ((X.out.next k1).more (.cells #[.int .i64 a, .int .i64 b, .int .i64 c] 55))
       have A1 := Lib.hid (HA.out.next X1.out.a.bel)
       clear k1 x0 x1 x2 x3 x4 x5 x6 x7 x8 x9 x10
       obtain ⟨x0, x1, x2, x3, x4, x5, x6, x7, x8, x9, x10⟩ := cells11 X1.out.a.blk
       simp only [])
    | (go_at_call 18; refine (JN.out _ A1.out).mono ?_; (rintro e w2 ⟨rfl, k2⟩)
       have X2 := Lib.hid (X1.out.next k2)
       clear k2 x0 x1 x2 x3 x4 x5 x6 x7 x8 x9 x10
       obtain ⟨x0, x1, x2, x3, x4, x5, x6, x7, x8, x9, x10⟩ := cells11 X2.out.a.blk
       obtain ⟨c0, c1, c2, c3⟩ := cel4 X2.out.b.blk
       have f0 := frz (j := 0) X2.out.b.blk
       have f1 := frz (j := 1) X2.out.b.blk
       have f2 := frz (j := 2) X2.out.b.blk
       have f3 := frz (j := 3) X2.out.b.blk
       simp only [])
    | go_values | go_skip | go_guarded | go_step | go_upon | go_back)
  refine (X2.out.b.set4).ret fun W' B => ?_
  obtain ⟨c0, c1, c2, c3⟩ := cel4 B.blk
  refine bodyPost_ret (by simp [results, Tryd.results10, go_sem, c0, c1, c2, c3]; rfl) rfl ⟨rfl, B.bel⟩

/-- What Of answers of a rule that is right, in a year that is near. -/
def OfA (r : RV) (y : Int) (f : FV) (b : Bool) : Prop := (b = true ∧ frY r y ∧ f = frF r y) ∨ (b = false ∧ ¬ frY r y ∧ f = noF)
theorem ofA_ex (r : RV) (y : Int) : ∃ f b, OfA r y f b := by
  by_cases h : frY r y
  · exact ⟨_, _, .inl ⟨rfl, h, rfl⟩⟩
  · exact ⟨_, _, .inr ⟨rfl, h, rfl⟩⟩
theorem fof_is (r : RV) (y : Int) (f : FV) (b : Bool) (w : World) (hA : LaidF w) (hr : okR r) (hy : nrY y) (h : OfA r y f b) :
    Calls Tryd.prog 10 #[rV r, .int .i64 y] w fun e w' => e = .returned (.tuple #[fvV f, .bool b]) ∧ Below w.heap.size w w' := by
  rcases h with ⟨rfl, ⟨h1, h2, h3⟩, rfl⟩ | ⟨rfl, h1, rfl⟩
  · have hw := in_yes hr hy h3
    obtain ⟨a, b, c, e0, hd⟩ := dateis_ex r.dk r.dw r.dn y r.mo
    rcases hd with ⟨rfl, -, d1, d2⟩ | ⟨-, -, -, -, d1⟩
    · exact fof_yes r y a b c _ w hA h1 h2 hr.2.2.2.1 hr.2.2.2.2 hw ⟨d1, d2⟩ (by rw [d2])
    · exact absurd hw d1
  · by_cases h2 : r.fr ≤ y ∧ y ≤ r.tl
    · exact fof_no r y w hA h2.1 h2.2 (in_no fun h => h1 ⟨h2.1, h2.2, h⟩)
    · exact fof_out r y w h2
end Go.Proofs.YtblamffdlclomaaDoor
