/- The contracts of zone.saved and zone.Within at an era of rules. -/
import Derived.Test.YtdmfgechoanmlaaGreatDoorZmE
import Derived.Test.YtdmfgechoanmlaaGreatDoorZnH
import Derived.Test.YtdmfgechoanmlaaGreatDoorMZX
import Derived.BigQuiet
namespace Go.Proofs.YtdmfgechoanmlaaGreatDoor
open Go Go.RowKit Go.Sort
attribute [local go_sem] Oper.semAt_some
attribute [local go_sem] fvV

theorem ah_lt {w : World} (h : AhAt w) : 2 < w.heap.size := cell_lt (h 1 (by omega) (by omega))
def svO (o : Option FV) : Int := match o with | some f => f.sv | none => 0
def ltO (o : Option FV) (d : List UInt8) : List UInt8 := match o with | some f => f.lt | none => d
/-- What has to hold of rules, an offset, and an instant. -/
structure LatP (n : Nat) (rs : List RV) (off t : Int) : Prop where
  hn : rs.length = n
  hn1 : n ≤ 1000
  ok : ∀ r ∈ rs, okR r ∧ 1900 ≤ r.fr
  ap : Apt (rowF rs)
  o1 : -90000 < off
  o2 : off < 90000
  nr : NrT t
theorem flatest_is (A0 : Option Addr) (n c0 : Nat) (rs : List RV) (off t : Int) (w : World) (hA : LaidF w) (hR : RowsAt 11 cR A0 rs w) (hP : LatP n rs off t) :
    Calls Tryz.prog 77 #[.slice A0 n c0, .int .i64 off, .int .i64 t] w fun e w' => ∃ f b, e = .returned (.tuple #[fvV f, .bool b]) ∧ FbIs (latF off t 0 none (rowF rs)) f b ∧ Below w.heap.size w w' :=
  callsIn_wide.1 (flatest_in 9 (Nat.le_refl _) A0 n c0 rs off t w hA (ah_lt hA.ah) hR hP.hn hP.hn1 hP.ok hP.ap hP.o1 hP.o2 hP.nr)
set_option maxRecDepth 20000 in
theorem saved_ruled (e : EV) (A0 : Option Addr) (n c0 : Nat) (rs : List RV) (t s : Int) (l : List UInt8) (w : World) (he : e.rl.isEmpty = false) (hA : LaidF w) (hR : RowsAt 11 cR A0 rs w) (hP : LatP n rs e.of t) (hs : svO (latF e.of t 0 none (rowF rs)) = s) (hl : ltO (latF e.of t 0 none (rowF rs)) (ltrL rs n) = l) :
    Calls Tryz.prog 59 #[evV e, .slice A0 n c0, .int .i64 t] w fun x w' => x = .returned (.tuple #[.int .i64 s, .string ⟨l.toArray⟩]) ∧ Below w.heap.size w w' := by
  have X0 := Lib.hid (BlkN.make (Below.refl w.heap.size w) (cE e) 54)
  obtain ⟨x0, x1, x2, x3, x4, x5, x6, x7, x8, x9, x10, x11⟩ := cells12 X0.out.blk
  have LT := Lib.hid (flatest_is A0 n c0 rs e.of t _ (hA.next X0.out.bel) (hR.next X0.out.bel) hP)
  have FL := Lib.hid (fun W (k : Below w.heap.size w W) => fletter_any A0 n c0 rs W (hR.next k) hP.hn hP.hn1)
  have HS := Lib.hid hs
  have HL := Lib.hid hl
  clear hs hl hP hA hR
  generalize latF e.of t 0 none (rowF rs) = o at LT HS HL
  obtain ⟨of, rl, sv, fm, en, uy, um, dk, dw, dn, sc, ck⟩ := e
  unfold evV at *
  unfold cE at *
  simp only at *
  go_enter Tryz.func59, Tryz.ntmps59
  repeat (first | go_values | go_skip | go_guarded | go_step | go_upon | go_back)
  go_at_call 77
  refine LT.out.mono ?_
  rintro x w1 ⟨f, b, rfl, hf, k1⟩
  simp only [fvV]
  have X1 := Lib.hid (X0.out.next k1)
  have B1 := Lib.hid (BlkN.make X1.out.bel #[.int .i64 f.nm, .int .i64 f.kd, .int .i64 f.sv, .string ⟨f.lt.toArray⟩] 145)
  obtain ⟨y0, y1, y2, y3⟩ := cel4 B1.out.blk
  clear k1 x0 x1 x2 x3 x4 x5 x6 x7 x8 x9 x10 x11
  rcases hf with ⟨rfl, ho⟩ | ⟨rfl, ho, hff⟩
  · subst ho
    have e1 : Hid (f.sv = s) := Lib.hid HS.out
    have e2 : Hid (f.lt = l) := Lib.hid HL.out
    repeat (first | go_values | go_skip | go_guarded | go_step | go_upon | go_back)
    go_quiet (fail)
    go_wp2
    go_ret2
    exact ⟨by rw [← e1.out, ← e2.out]; rfl, below_drewN B1.out.bel _⟩
  · subst ho
    have e1 : 0 = s := HS.out
    have e2 : ltrL rs n = l := HL.out
    have FW := Lib.hid (FL.out _ B1.out.bel)
    rw [e2] at FW
    clear HS HL hff
    repeat (first
      | (go_at_call 78; (with_reducible refine FW.out.mono ?_); (rintro x w2 ⟨rfl, k2⟩); have X2 := Lib.hid (bthen B1.out.bel k2); clear k2; simp only [])
      | go_values | go_skip | go_guarded | go_step | go_upon | go_back)
    go_ret2
    exact ⟨by rw [← e1]; rfl, X2.out⟩
/-- What an era shows that saves so much, and has such a letter. -/
def plO (e : EV) (s : Int) : Int := shE e.fm (e.of + s)
def plU (e : EV) (s : Int) (l : List UInt8) : Value := if plO e s = 0 then locV (e.of + s) (s != 0) (shS e.fm (e.of + s) (s != 0) l) else locV 0 false []
set_option maxRecDepth 20000 in
theorem within_gen (e : EV) (lv : Value) (t s e0 : Int) (l : List UInt8) (V : Value) (w : World) (HA : Hid (LaidB w)) (SV : Hid (∀ W, Below w.heap.size w W → Calls Tryz.prog 59 #[evV e, lv, .int .i64 t] W fun x w' => x = .returned (.tuple #[.int .i64 s, .string ⟨l.toArray⟩]) ∧ Below W.heap.size W w')) (h1 : -90000 < e.of) (h2 : e.of < 90000) (h3 : -90000 < s) (h4 : s < 90000)
    (SH : Hid (∀ W, LaidB W → Calls Tryz.prog 60 #[.string ⟨e.fm.toArray⟩, .int .i64 (e.of + s), .bool (s != 0), .string ⟨l.toArray⟩] W fun x w' => x = .returned (.tuple #[.string ⟨(shS e.fm (e.of + s) (s != 0) l).toArray⟩, .int .i64 (shE e.fm (e.of + s))]) ∧ Below W.heap.size W w')) (hE : plO e s = e0) (hV : plU e s l = V) :
    Calls Tryz.prog 33 #[evV e, lv, .int .i64 t] w fun x w' => x = .returned (.tuple #[V, .int .i64 e0]) ∧ Below w.heap.size w w' := by
  obtain ⟨T, hT⟩ : ∃ T, shS e.fm (e.of + s) (s != 0) l = T := ⟨_, rfl⟩
  obtain ⟨d, hd⟩ : ∃ d, (s != 0) = d := ⟨_, rfl⟩
  have X : Hid (TwoB w w.heap.size (cE e) 54 (w.heap.size + 1) #[.int .i64 0, .bool false, .string ⟨#[]⟩] 41 ((w.alloc (.cells (cE e) 54)).alloc (.cells #[.int .i64 0, .bool false, .string ⟨#[]⟩] 41))) :=
    ⟨BlkN.fst (w := w) _ 54 _, BlkN.two w _ _ _⟩
  have hw : IntKind.i64.wrap (e.of + s) = e.of + s := IntWalk.i64_in _ (by omega)
  obtain ⟨n, hn⟩ : ∃ n, e.of + s = n := ⟨_, rfl⟩
  unfold plO at hE
  unfold plU plO at hV
  rw [hT, hE, hd] at SH
  rw [hT, hE, hd] at hV
  rw [hn] at SH hV hw
  clear hT hE
  obtain ⟨of, rl, sv, fm, en, uy, um, dk, dw, dn, sc, ck⟩ := e
  unfold evV at *
  unfold cE at *
  simp only at *
  obtain ⟨x0, x1, x2, x3, x4, x5, x6, x7, x8, x9, x10, x11⟩ := cells12 X.out.a.blk
  by_cases hz : e0 = 0
  · subst hz
    rw [if_pos rfl] at hV
    have HV := Lib.hid hV
    clear hV
    go_enter Tryz.func33, Tryz.ntmps33
    repeat (first
      | (go_at_call 59; refine (SV.out _ X.out.a.bel).mono ?_; rintro x w1 ⟨rfl, k1⟩; simp only []
         have X1 := Lib.hid (X.out.next k1)
         clear k1 x0 x1 x2 x3 x4 x5 x6 x7 x8 x9 x10 x11
         obtain ⟨x0, x1, x2, x3, x4, x5, x6, x7, x8, x9, x10, x11⟩ := cells12 X1.out.a.blk)
      | (go_at_call 60; refine (SH.out _ (HA.out.next X1.out.a.bel)).mono ?_; rintro x w2 ⟨rfl, k2⟩; simp only []
         have X2 := Lib.hid (X1.out.b.next k2)
         clear k2
         obtain ⟨c0, c1, c2⟩ := cel3 X2.out.blk
         have f0 := frz (j := 0) X2.out.blk
         have f1 := frz (j := 1) X2.out.blk
         have f2 := frz (j := 2) X2.out.blk)
      | go_values | go_skip | go_guarded | go_step | go_upon | go_back)
    refine (X2.out.set3).ret fun W' B => ?_
    obtain ⟨c0, c1, c2⟩ := cel3 B.blk
    refine bodyPost_ret (by simp [results, Tryz.results33, go_sem, c0, c1, c2]; rfl) rfl ⟨?_, B.bel⟩
    rw [← HV.out]; rfl
  · rw [if_neg hz] at hV
    have HV := Lib.hid hV
    have hz1 : (e0 != 0) = true := by simpa using hz
    clear hV hz
    go_enter Tryz.func33, Tryz.ntmps33
    repeat (first
      | (go_at_call 59; refine (SV.out _ X.out.a.bel).mono ?_; rintro x w1 ⟨rfl, k1⟩; simp only []
         have X1 := Lib.hid (X.out.next k1)
         clear k1 x0 x1 x2 x3 x4 x5 x6 x7 x8 x9 x10 x11
         obtain ⟨x0, x1, x2, x3, x4, x5, x6, x7, x8, x9, x10, x11⟩ := cells12 X1.out.a.blk)
      | (go_at_call 60; refine (SH.out _ (HA.out.next X1.out.a.bel)).mono ?_; rintro x w2 ⟨rfl, k2⟩; simp only []
         have X2 := Lib.hid (X1.out.b.next k2)
         clear k2
         obtain ⟨c0, c1, c2⟩ := cel3 X2.out.blk
         have f0 := frz (j := 0) X2.out.blk
         have f1 := frz (j := 1) X2.out.blk
         have f2 := frz (j := 2) X2.out.blk)
      | go_values | go_skip | go_guarded | go_step | go_upon | go_back)
    refine (X2.out.set3).ret fun W' B => ?_
    obtain ⟨c0, c1, c2⟩ := cel3 B.blk
    refine bodyPost_ret (by simp [results, Tryz.results33, go_sem, c0, c1, c2]; rfl) rfl ⟨?_, B.bel⟩
    rw [← HV.out]; rfl
end Go.Proofs.YtdmfgechoanmlaaGreatDoor
