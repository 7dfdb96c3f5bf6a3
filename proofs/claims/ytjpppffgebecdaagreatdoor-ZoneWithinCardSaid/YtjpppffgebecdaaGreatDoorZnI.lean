/- The law's own example, and the law ZonePlain. -/
import Derived.Test.YtjpppffgebecdaaGreatDoorZnH
namespace Go.Proofs.YtjpppffgebecdaaGreatDoor
open Go Go.RowKit
attribute [local go_sem] Oper.semAt_some

def wkE : EV := ⟨3600, [], 0, [67, 69, 84], false, 0, 0, 0, 0, 0, 0, 0⟩
theorem esAt_one {W : World} {g : Nat} {e : EV} {t : TypeId} (h : W.heap[g]? = some (.cells (cE e) t (0, 0))) : EsAt W.heap.size (some ⟨g, 0, none⟩) [e] W := fun i e' he => by
  have hi := (List.getElem?_eq_some_iff.1 he).1
  simp at hi
  subst hi
  simp at he
  subst he
  refine ⟨g, 0, rfl, (Array.getElem?_eq_some_iff.1 h).1, fun j v hv => ?_⟩
  rw [show 0 + 0 * 12 + j = j by omega, cell_of_row W g j _ _ _ h]; exact hv
theorem wk_at (t : Int) (h1 : ¬ (t < -2199023255552 ∨ 2199023255552 < t)) : atE wkE t = 0 ∧ atV wkE t = .agg #[.int .i64 3600, .bool false, .string ⟨#[67, 69, 84]⟩] := by
  have a : erE wkE true 0 = 0 := by decide +kernel
  have b : plE wkE = 0 := by decide +kernel
  have c : shS wkE.fm (wkE.of + wkE.sv) (wkE.sv != 0) [] = [67, 69, 84] := by decide +kernel
  unfold atE atV plV
  rw [a, b, c, if_neg (by simp), if_neg h1, if_neg (by simp), if_neg h1, if_pos rfl]
  exact ⟨rfl, rfl⟩
set_option maxRecDepth 20000 in
theorem zawake_is (w : World) (HA : Hid (LaidB w)) : Calls Tryz.prog 10 #[] w fun x w' => x = .returned (.bool true) ∧ Below w.heap.size w w' := by
  have hmf : ∀ (fn : Fn) (first cap : Array Value) (w : World), (Instr.makeFunc fn first cap).run Tryz.prog w = .ok (.func fn first cap) w := fun _ _ _ _ => rfl
  have X0 := Lib.hid ((BlkN.make (Below.refl w.heap.size w) (cE wkE) 54).more (.cells #[.string ⟨#[88]⟩, .slice (some ⟨w.heap.size, 0, none⟩) 1 1, .slice none 0 0] 27))
  have Y0 := Lib.hid (BlkN.two w (.cells (cE wkE) 54) #[.string ⟨#[88]⟩, .slice (some ⟨w.heap.size, 0, none⟩) 1 1, .slice none 0 0] 27)
  have A1 : Hid (∀ W fn fs lb, BlkN w w.heap.size (cE wkE) 54 W → Calls Tryz.prog 16 #[.agg #[.string ⟨#[88]⟩, .slice (some ⟨w.heap.size, 0, none⟩) 1 1], .func fn fs lb, .int .i64 5] W fun x w' => x = .returned (.tuple #[.agg #[.int .i64 3600, .bool false, .string ⟨#[67, 69, 84]⟩], .int .i64 0]) ∧ Below W.heap.size W w') := Lib.hid fun W fn fs lb hW =>
    at_plain [88] _ 1 wkE fn fs lb 5 0 _ W (esAt_one hW.blk) rfl rfl (Lib.hid (HA.out.next hW.bel)) (Lib.hid (by simp [wkE])) (wk_at 5 (by decide)).1 (wk_at 5 (by decide)).2
  have A2 : Hid (∀ W fn fs lb, BlkN w w.heap.size (cE wkE) 54 W → Calls Tryz.prog 16 #[.agg #[.string ⟨#[88]⟩, .slice (some ⟨w.heap.size, 0, none⟩) 1 1], .func fn fs lb, .int .i64 (-2199023255552)] W fun x w' => x = .returned (.tuple #[.agg #[.int .i64 3600, .bool false, .string ⟨#[67, 69, 84]⟩], .int .i64 0]) ∧ Below W.heap.size W w') := Lib.hid fun W fn fs lb hW =>
    at_plain [88] _ 1 wkE fn fs lb _ 0 _ W (esAt_one hW.blk) rfl rfl (Lib.hid (HA.out.next hW.bel)) (Lib.hid (by simp [wkE])) (wk_at _ (by decide)).1 (wk_at _ (by decide)).2
  obtain ⟨y0, y1, y2⟩ := cel3 Y0.out.blk
  unfold cE wkE at *
  go_enter Tryz.func10, Tryz.ntmps10
  go_wp2_with (first
    | (go_at_call 16; (with_reducible refine (A1.out _ _ _ _ X0.out).mono ?_); rintro x w1 ⟨rfl, k1⟩; simp only []
       have X1 := Lib.hid ((X0.out.next k1).more (.cells #[.int .i64 3600, .bool false, .string ⟨#[67, 69, 84]⟩] 41))
       have Y1 := Lib.hid ((Y0.out.next k1).more (.cells #[.int .i64 3600, .bool false, .string ⟨#[67, 69, 84]⟩] 41))
       have L1 := Lib.hid (BlkN.make (X0.out.next k1).bel #[.int .i64 3600, .bool false, .string ⟨#[67, 69, 84]⟩] 41)
       clear k1 y0 y1 y2
       obtain ⟨y0, y1, y2⟩ := cel3 Y1.out.blk)
    | (go_at_call 16; (with_reducible refine (A2.out _ _ _ _ X1.out).mono ?_); rintro x w2 ⟨rfl, k2⟩; simp only []
       have L2 := Lib.hid ((L1.out.next k2).more (.cells #[.int .i64 3600, .bool false, .string ⟨#[67, 69, 84]⟩] 41))
       have M2 := Lib.hid (BlkN.make (X1.out.next k2).bel #[.int .i64 3600, .bool false, .string ⟨#[67, 69, 84]⟩] 41)
       clear k2 y0 y1 y2
       obtain ⟨a0, a1, a2⟩ := cel3 L2.out.blk
       obtain ⟨b0, b1, b2⟩ := cel3 M2.out.blk))
  go_ret
  exact ⟨rfl, L2.out.bel⟩
set_option maxRecDepth 20000 in
theorem open_nil (nm : List UInt8) (A : Option Addr) (n c : Nat) (w : World) : Calls Tryz.prog 32 #[.agg #[.string ⟨nm.toArray⟩, .slice A n c], .nilFunc] w fun x w' => x = .returned (.tuple #[.agg #[.slice none 0 0, .slice none 0 0], .int .i64 1]) ∧ Below w.heap.size w w' := by
  have hfe : ∀ W, (binOp BinOp.eql 91 Value.nilFunc Value.nilFunc).run Tryz.prog W = .ok (.bool true) W := fun W => by rfl
  have N : Hid (BlkN w (w.heap.size + 2) #[.slice none 0 0, .slice none 0 0] 94 (((w.alloc (.cells #[.string ⟨nm.toArray⟩, .slice A n c] 24)).alloc (.cells #[.nilFunc] 91)).alloc (.cells #[.slice none 0 0, .slice none 0 0] 94))) := by
    have := BlkN.make (((Below.refl w.heap.size w).alloc (Nat.le_refl _) (.cells #[.string ⟨nm.toArray⟩, .slice A n c] 24)).alloc (by simp) (.cells #[.nilFunc] 91)) #[.slice none 0 0, .slice none 0 0] 94
    rwa [World.size_alloc, World.size_alloc] at this
  go_enter Tryz.func32, Tryz.ntmps32
  go_wp2
  refine N.out.ret fun W' B => ?_
  obtain ⟨c0, c1⟩ := cel2 B.blk
  exact bodyPost_ret (by simp [results, Tryz.results32, go_sem, c0, c1]) rfl ⟨rfl, B.bel⟩
theorem check_nil (nm : List UInt8) (A : Option Addr) (n c : Nat) (w : World) : Calls Tryz.prog 12 #[.agg #[.string ⟨nm.toArray⟩, .slice A n c], .nilFunc] w fun x w' => x = .returned (.int .i64 1) ∧ Below w.heap.size w w' := by
  have X0 := Lib.hid (BlkN.make (Below.refl w.heap.size w) #[.string ⟨nm.toArray⟩, .slice A n c] 24)
  have OP := Lib.hid (fun W => open_nil nm A n c W)
  obtain ⟨y0, y1⟩ := cel2 X0.out.blk
  go_enter Tryz.func12, Tryz.ntmps12
  go_wp2_with (first
    | (go_at_call 32; refine (OP.out _).mono ?_; rintro x w1 ⟨rfl, k1⟩; simp only []
       have X1 := Lib.hid ((X0.out.next k1).more (.cells #[.slice none 0 0, .slice none 0 0] 94))
       clear k1 y0 y1))
  go_ret
  exact ⟨rfl, X1.out.bel⟩

/-- The ways that the law goes. -/
def PlW (e : EV) (t : Int) : Prop :=
  (kdK e.fm = none ∧ atE e t = 12 ∧ atV e t = locV 0 false []) ∨
  ∃ k, kdK e.fm = some k ∧ ((atE e t = 10 ∧ atV e t = locV 0 false [] ∧ (e.of ≤ -90000 ∨ (¬ e.of ≤ -90000 ∧ e.of ≥ 90000) ∨ (¬ e.of ≤ -90000 ∧ ¬ e.of ≥ 90000 ∧ e.sv ≤ -90000) ∨ (¬ e.of ≤ -90000 ∧ ¬ e.of ≥ 90000 ∧ ¬ e.sv ≤ -90000 ∧ e.sv ≥ 90000) ∨ (¬ e.of ≤ -90000 ∧ ¬ e.of ≥ 90000 ∧ ¬ e.sv ≤ -90000 ∧ ¬ e.sv ≥ 90000 ∧ t < -2199023255552) ∨ (¬ e.of ≤ -90000 ∧ ¬ e.of ≥ 90000 ∧ ¬ e.sv ≤ -90000 ∧ ¬ e.sv ≥ 90000 ∧ ¬ t < -2199023255552 ∧ t > 2199023255552))) ∨
    (¬ e.of ≤ -90000 ∧ ¬ e.of ≥ 90000 ∧ ¬ e.sv ≤ -90000 ∧ ¬ e.sv ≥ 90000 ∧ ¬ t < -2199023255552 ∧ ¬ t > 2199023255552 ∧ atE e t = plE e ∧ atV e t = plV e))
theorem plain_ways (e : EV) (t : Int) (he : e.rl = []) (hn : e.en = false) : PlW e t := by
  unfold PlW
  have hv : erE e true 0 = if kdK e.fm = none then 12 else if tmB e.of = true ∨ tmB e.sv = true then 10 else 0 := by
    unfold erE
    rw [he, hn]
    simp
  cases hk : kdK e.fm with
  | none =>
    left
    rw [hk, if_pos rfl] at hv
    unfold atE atV
    rw [hv, if_pos (by decide), if_pos (by decide)]
    exact ⟨rfl, rfl, rfl⟩
  | some k =>
    right
    refine ⟨k, rfl, ?_⟩
    rw [hk, if_neg (by simp)] at hv
    by_cases h1 : tmB e.of = true ∨ tmB e.sv = true
    · left
      rw [if_pos h1] at hv
      unfold atE atV
      rw [hv, if_pos (by decide), if_pos (by decide)]
      refine ⟨rfl, rfl, ?_⟩
      unfold tmB at h1
      simp at h1
      omega
    · rw [if_neg h1] at hv
      unfold atE atV
      have z : ¬ ((0 : Int) ≠ 0) := by decide
      rw [hv, if_neg z, if_neg z]
      unfold tmB at h1
      simp at h1
      by_cases h2 : t < -2199023255552 ∨ 2199023255552 < t
      · left
        rw [if_pos h2, if_pos h2]
        exact ⟨rfl, rfl, by omega⟩
      · right
        rw [if_neg h2, if_neg h2]
        exact ⟨by omega, by omega, by omega, by omega, by omega, by omega, rfl, rfl⟩
theorem zonePlain_long (e : EV) (t : Int) (w : World) (HA : Hid (LaidB w)) (h100 : ¬ e.fm.length ≤ 100) :
    Calls Tryz.prog 6 #[evV e, .int .i64 t] w fun x w' => x = .returned (.bool true) ∧ Below w.heap.size w w' := by
  have hz : (e.fm.length : Int) > 100 := by omega
  have E0 := Lib.hid (BlkN.make (Below.refl w.heap.size w) (cE e) 54)
  have AW := Lib.hid (fun W (h : LaidB W) => zawake_is W (Lib.hid h))
  obtain ⟨x0, x1, x2, x3, x4, x5, x6, x7, x8, x9, x10, x11⟩ := cells12 E0.out.blk
  clear h100
  unfold evV cE at *
  go_enter Tryz.func6, Tryz.ntmps6
  go_wp2_with (first | (go_at_call 10; refine (AW.out _ (HA.out.next E0.out.bel)).mono ?_; rintro x w1 ⟨rfl, k1⟩; simp only []))
  go_ret
  exact ⟨rfl, bthen E0.out.bel k1⟩
def plE' (e : EV) : EV := ⟨e.of, [], e.sv, e.fm, false, e.uy, e.um, e.dk, e.dw, e.dn, e.sc, e.ck⟩
set_option maxRecDepth 20000 in
set_option maxHeartbeats 4000000 in
theorem zonePlain_in (e : EV) (t : Int) (w : World) (HA : Hid (LaidB w)) (h100 : e.fm.length ≤ 100) :
    Calls Tryz.prog 6 #[evV e, .int .i64 t] w fun x w' => x = .returned (.bool true) ∧ Below w.heap.size w w' := by
  have hmf : ∀ (fn : Fn) (first cap : Array Value) (w : World), (Instr.makeFunc fn first cap).run Tryz.prog w = .ok (.func fn first cap) w := fun _ _ _ _ => rfl
  have hz : ¬ (e.fm.length : Int) > 100 := by omega
  have V := plain_ways (plE' e) t rfl rfl
  have AW := Lib.hid (fun W (h : LaidB W) => zawake_is W (Lib.hid h))
  have HF : Hid (e.fm.length ≤ 1000) := Lib.hid (by omega)
  have AT0 : Hid (∀ W g e0 V fn fs lb, atE (plE' e) t = e0 → atV (plE' e) t = V → BlkN w g (cE (plE' e)) 54 W → Calls Tryz.prog 16 #[.agg #[.string ⟨#[88]⟩, .slice (some ⟨g, 0, none⟩) 1 1], .func fn fs lb, .int .i64 t] W fun x w' => x = .returned (.tuple #[V, .int .i64 e0]) ∧ Below W.heap.size W w') := Lib.hid fun W g e0 V fn fs lb h0 hV hW =>
    at_plain [88] _ 1 (plE' e) fn fs lb t e0 V W (esAt_one hW.blk) rfl rfl (Lib.hid (HA.out.next hW.bel)) HF h0 hV
  have SH0 : Hid (∀ W off d h T, shE e.fm off = h → shS e.fm off d [] = T → LaidB W → Calls Tryz.prog 27 #[.string ⟨e.fm.toArray⟩, .int .i64 off, .bool d, .string ⟨#[]⟩] W fun x w' => x = .returned (.tuple #[.string ⟨T.toArray⟩, .int .i64 h]) ∧ Below W.heap.size W w') := Lib.hid fun W off d h T h1 h2 hW => show_is e.fm [] T off h d W (Lib.hid hW) (Lib.hid ⟨HF.out, by simp⟩) (Lib.hid ⟨h2, h1⟩)
  have CK := Lib.hid (fun g W => check_nil [88] (some ⟨g, 0, none⟩) 1 1 W)
  obtain ⟨of, rl, sv, fm, en, uy, um, dk, dw, dn, sc, ck⟩ := e
  unfold plE' at *
  simp only at *
  have W3 : Hid (BlkN w w.heap.size (cE ⟨of, [], sv, fm, false, uy, um, dk, dw, dn, sc, ck⟩) 54 (((w.alloc (.cells (cE ⟨of, [], sv, fm, false, uy, um, dk, dw, dn, sc, ck⟩) 54)).alloc (.cells (cE ⟨of, [], sv, fm, false, uy, um, dk, dw, dn, sc, ck⟩) 54)).alloc (.cells #[.string ⟨#[88]⟩, .slice (some ⟨w.heap.size + 1, 0, none⟩) 1 1, .slice none 0 0] 27))) := Lib.hid ((BlkN.fst _ _ _).more _)
  have X0 : Hid (BlkN w (w.heap.size + 1) (cE ⟨of, [], sv, fm, false, uy, um, dk, dw, dn, sc, ck⟩) 54 (((w.alloc (.cells (cE ⟨of, [], sv, fm, false, uy, um, dk, dw, dn, sc, ck⟩) 54)).alloc (.cells (cE ⟨of, [], sv, fm, false, uy, um, dk, dw, dn, sc, ck⟩) 54)).alloc (.cells #[.string ⟨#[88]⟩, .slice (some ⟨w.heap.size + 1, 0, none⟩) 1 1, .slice none 0 0] 27))) := Lib.hid ((BlkN.two w _ _ _).more _)
  have Y0 : Hid (BlkN w (w.heap.size + 2) #[.string ⟨#[88]⟩, .slice (some ⟨w.heap.size + 1, 0, none⟩) 1 1, .slice none 0 0] 27 (((w.alloc (.cells (cE ⟨of, [], sv, fm, false, uy, um, dk, dw, dn, sc, ck⟩) 54)).alloc (.cells (cE ⟨of, [], sv, fm, false, uy, um, dk, dw, dn, sc, ck⟩) 54)).alloc (.cells #[.string ⟨#[88]⟩, .slice (some ⟨w.heap.size + 1, 0, none⟩) 1 1, .slice none 0 0] 27))) := by
    have := BlkN.make (((Below.refl w.heap.size w).alloc (Nat.le_refl _) (.cells (cE ⟨of, [], sv, fm, false, uy, um, dk, dw, dn, sc, ck⟩) 54)).alloc (by simp) (.cells (cE ⟨of, [], sv, fm, false, uy, um, dk, dw, dn, sc, ck⟩) 54)) #[.string ⟨#[88]⟩, .slice (some ⟨w.heap.size + 1, 0, none⟩) 1 1, .slice none 0 0] 27
    rwa [World.size_alloc, World.size_alloc] at this
  have E0 := W3
  clear W3 h100
  unfold evV at *
  unfold cE at *
  simp only at *
  rcases V with ⟨hk, h1, h2⟩ | ⟨k, hk, ⟨h1, h2, h3⟩ | ⟨g1, g2, g3, g4, g5, g6, h1, h2⟩⟩
  · have AT := Lib.hid (fun W fn fs lb => AT0.out W (w.heap.size + 1) 12 _ fn fs lb h1 h2)
    have HK : Hid (kdV fm = 0 ∧ kdE fm = 12) := Lib.hid (by unfold kdV kdE; rw [hk]; exact ⟨rfl, rfl⟩)
    clear h1 h2 hk AT0
    unfold locV at AT
    go_enter Tryz.func6, Tryz.ntmps6
    go_wp2_with (first
      | (go_at_call 16; (refine (AT.out _ _ _ _ X0.out).mono ?_); rintro x w1 ⟨rfl, k1⟩; simp only []
         have E1 := Lib.hid ((E0.out.next k1).more (.cells #[.int .i64 0, .bool false, .string ⟨#[]⟩] 41))
         have Y1 := Lib.hid ((Y0.out.next k1).more (.cells #[.int .i64 0, .bool false, .string ⟨#[]⟩] 41))
         have L1 := Lib.hid (BlkN.make (E0.out.next k1).bel #[.int .i64 0, .bool false, .string ⟨#[]⟩] 41)
         clear k1 
         obtain ⟨x0, x1, x2, x3, x4, x5, x6, x7, x8, x9, x10, x11⟩ := cells12 E1.out.blk)
      | (go_at_call 26; refine (kind_is fm _ _ _ (HA.out.next E1.out.bel) HF.out HK).mono ?_; rintro x w2 ⟨rfl, k2⟩; simp only []
         have E2 := Lib.hid (E1.out.next k2)
         have Y2 := Lib.hid (Y1.out.next k2)
         have L2 := Lib.hid (L1.out.next k2)
         clear k2 x0 x1 x2 x3 x4 x5 x6 x7 x8 x9 x10 x11
         obtain ⟨x0, x1, x2, x3, x4, x5, x6, x7, x8, x9, x10, x11⟩ := cells12 E2.out.blk
         obtain ⟨a0, a1, a2⟩ := cel3 L2.out.blk)
      | (go_at_call 10; refine (AW.out _ (HA.out.next E2.out.bel)).mono ?_; rintro x w3 ⟨rfl, k3⟩; simp only []))
    go_ret
    exact ⟨rfl, bthen E2.out.bel k3⟩
  · have AT := Lib.hid (fun W fn fs lb => AT0.out W (w.heap.size + 1) 10 _ fn fs lb h1 h2)
    have HK : Hid (kdV fm = (k : Int) ∧ kdE fm = 0) := Lib.hid (by unfold kdV kdE; rw [hk]; exact ⟨rfl, rfl⟩)
    clear h1 h2 hk AT0
    unfold locV at AT
    rcases h3 with g1 | ⟨g1, g2⟩ | ⟨g1, g2, g3⟩ | ⟨g1, g2, g3, g4⟩ | ⟨g1, g2, g3, g4, g5⟩ | ⟨g1, g2, g3, g4, g5, g6⟩
    all_goals
      go_enter Tryz.func6, Tryz.ntmps6
      go_wp2_with (first
        | (go_at_call 16; (refine (AT.out _ _ _ _ X0.out).mono ?_); rintro x w1 ⟨rfl, k1⟩; simp only []
           have E1 := Lib.hid ((E0.out.next k1).more (.cells #[.int .i64 0, .bool false, .string ⟨#[]⟩] 41))
           have Y1 := Lib.hid ((Y0.out.next k1).more (.cells #[.int .i64 0, .bool false, .string ⟨#[]⟩] 41))
           have L1 := Lib.hid (BlkN.make (E0.out.next k1).bel #[.int .i64 0, .bool false, .string ⟨#[]⟩] 41)
           clear k1 
           obtain ⟨x0, x1, x2, x3, x4, x5, x6, x7, x8, x9, x10, x11⟩ := cells12 E1.out.blk)
        | (go_at_call 26; refine (kind_is fm _ _ _ (HA.out.next E1.out.bel) HF.out HK).mono ?_; rintro x w2 ⟨rfl, k2⟩; simp only []
           have E2 := Lib.hid (E1.out.next k2)
           have Y2 := Lib.hid (Y1.out.next k2)
           have L2 := Lib.hid (L1.out.next k2)
           clear k2 x0 x1 x2 x3 x4 x5 x6 x7 x8 x9 x10 x11
           obtain ⟨x0, x1, x2, x3, x4, x5, x6, x7, x8, x9, x10, x11⟩ := cells12 E2.out.blk
           obtain ⟨a0, a1, a2⟩ := cel3 L2.out.blk)
        | (go_at_call 10; refine (AW.out _ (HA.out.next E2.out.bel)).mono ?_; rintro x w3 ⟨rfl, k3⟩; simp only []))
      go_ret
      exact ⟨rfl, bthen E2.out.bel k3⟩
  · have HK : Hid (kdV fm = (k : Int) ∧ kdE fm = 0) := Lib.hid (by unfold kdV kdE; rw [hk]; exact ⟨rfl, rfl⟩)
    simp only at g1 g2 g3 g4
    have hw : IntKind.i64.wrap (of + sv) = of + sv := IntWalk.i64_in _ (by omega)
    obtain ⟨n, hn⟩ : ∃ n, of + sv = n := ⟨_, rfl⟩
    obtain ⟨d, hd⟩ : ∃ d, (sv != 0) = d := ⟨_, rfl⟩
    obtain ⟨h, hh⟩ : ∃ h, shE fm n = h := ⟨_, rfl⟩
    obtain ⟨T, hT⟩ : ∃ T, shS fm n d [] = T := ⟨_, rfl⟩
    have SH := Lib.hid (fun W => SH0.out W n d h T hh hT)
    unfold plE at h1
    unfold plV plE at h2
    simp only at h1 h2
    rw [hn, hh] at h1
    rw [hn, hd, hh, hT] at h2
    rw [hn] at hw
    clear hk SH0 hh hT
    by_cases hz0 : h = 0
    · subst hz0
      rw [if_pos rfl] at h2
      have AT := Lib.hid (fun W fn fs lb => AT0.out W (w.heap.size + 1) 0 _ fn fs lb h1 h2)
      clear h1 h2 AT0
      unfold locV at AT
      go_enter Tryz.func6, Tryz.ntmps6
      go_wp2_with (first
        | (go_at_call 16; (refine (AT.out _ _ _ _ X0.out).mono ?_); rintro x w1 ⟨rfl, k1⟩; simp only []
           have E1 := Lib.hid ((E0.out.next k1).more (.cells #[.int .i64 n, .bool d, .string ⟨T.toArray⟩] 41))
           have Y1 := Lib.hid ((Y0.out.next k1).more (.cells #[.int .i64 n, .bool d, .string ⟨T.toArray⟩] 41))
           have L1 := Lib.hid (BlkN.make (E0.out.next k1).bel #[.int .i64 n, .bool d, .string ⟨T.toArray⟩] 41)
           clear k1 
           obtain ⟨x0, x1, x2, x3, x4, x5, x6, x7, x8, x9, x10, x11⟩ := cells12 E1.out.blk)
        | (go_at_call 26; refine (kind_is fm _ _ _ (HA.out.next E1.out.bel) HF.out HK).mono ?_; rintro x w2 ⟨rfl, k2⟩; simp only []
           have E2 := Lib.hid (E1.out.next k2)
           have Y2 := Lib.hid (Y1.out.next k2)
           have L2 := Lib.hid (L1.out.next k2)
           clear k2 x0 x1 x2 x3 x4 x5 x6 x7 x8 x9 x10 x11
           obtain ⟨x0, x1, x2, x3, x4, x5, x6, x7, x8, x9, x10, x11⟩ := cells12 E2.out.blk
           obtain ⟨a0, a1, a2⟩ := cel3 L2.out.blk)
        | (go_at_call 10; refine (AW.out _ (HA.out.next E4.out.bel)).mono ?_; rintro x w5 ⟨rfl, k5⟩; simp only [])
        | (go_at_call 27; refine (SH.out _ (HA.out.next E2.out.bel)).mono ?_; rintro x w3 ⟨rfl, k3⟩; simp only []
           have E3 := Lib.hid (E2.out.next k3)
           have Y3 := Lib.hid (Y2.out.next k3)
           have L3 := Lib.hid (L2.out.next k3)
           clear k3 x0 x1 x2 x3 x4 x5 x6 x7 x8 x9 x10 x11 a0 a1 a2
           obtain ⟨x0, x1, x2, x3, x4, x5, x6, x7, x8, x9, x10, x11⟩ := cells12 E3.out.blk
           obtain ⟨a0, a1, a2⟩ := cel3 L3.out.blk
           obtain ⟨y0, y1, y2⟩ := cel3 Y3.out.blk)
        | (go_at_call 12; refine (CK.out _ _).mono ?_; rintro x w4 ⟨rfl, k4⟩; simp only []
           have E4 := Lib.hid (E3.out.next k4)
           clear k4))
      go_ret
      exact ⟨rfl, bthen E4.out.bel k5⟩
    · rw [if_neg hz0] at h2
      have AT := Lib.hid (fun W fn fs lb => AT0.out W (w.heap.size + 1) h _ fn fs lb h1 h2)
      clear h1 h2 AT0
      unfold locV at AT
      have hzb : (h != 0) = true := by simpa using hz0
      go_enter Tryz.func6, Tryz.ntmps6
      go_wp2_with (first
        | (go_at_call 16; (refine (AT.out _ _ _ _ X0.out).mono ?_); rintro x w1 ⟨rfl, k1⟩; simp only []
           have E1 := Lib.hid ((E0.out.next k1).more (.cells #[.int .i64 0, .bool false, .string ⟨#[]⟩] 41))
           have Y1 := Lib.hid ((Y0.out.next k1).more (.cells #[.int .i64 0, .bool false, .string ⟨#[]⟩] 41))
           have L1 := Lib.hid (BlkN.make (E0.out.next k1).bel #[.int .i64 0, .bool false, .string ⟨#[]⟩] 41)
           clear k1 
           obtain ⟨x0, x1, x2, x3, x4, x5, x6, x7, x8, x9, x10, x11⟩ := cells12 E1.out.blk)
        | (go_at_call 26; refine (kind_is fm _ _ _ (HA.out.next E1.out.bel) HF.out HK).mono ?_; rintro x w2 ⟨rfl, k2⟩; simp only []
           have E2 := Lib.hid (E1.out.next k2)
           have Y2 := Lib.hid (Y1.out.next k2)
           have L2 := Lib.hid (L1.out.next k2)
           clear k2 x0 x1 x2 x3 x4 x5 x6 x7 x8 x9 x10 x11
           obtain ⟨x0, x1, x2, x3, x4, x5, x6, x7, x8, x9, x10, x11⟩ := cells12 E2.out.blk
           obtain ⟨a0, a1, a2⟩ := cel3 L2.out.blk)
        | (go_at_call 10; refine (AW.out _ (HA.out.next E3.out.bel)).mono ?_; rintro x w5 ⟨rfl, k5⟩; simp only [])
        | (go_at_call 27; refine (SH.out _ (HA.out.next E2.out.bel)).mono ?_; rintro x w3 ⟨rfl, k3⟩; simp only []
           have E3 := Lib.hid (E2.out.next k3)
           have Y3 := Lib.hid (Y2.out.next k3)
           have L3 := Lib.hid (L2.out.next k3)
           clear k3 x0 x1 x2 x3 x4 x5 x6 x7 x8 x9 x10 x11 a0 a1 a2
           obtain ⟨x0, x1, x2, x3, x4, x5, x6, x7, x8, x9, x10, x11⟩ := cells12 E3.out.blk
           obtain ⟨a0, a1, a2⟩ := cel3 L3.out.blk
           obtain ⟨y0, y1, y2⟩ := cel3 Y3.out.blk))
      go_ret
      exact ⟨rfl, bthen E3.out.bel k5⟩
end Go.Proofs.YtjpppffgebecdaaGreatDoor
