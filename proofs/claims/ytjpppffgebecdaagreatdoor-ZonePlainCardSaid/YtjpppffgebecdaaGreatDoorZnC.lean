/- What is asked of an era: its rules, what is wrong with it by itself, and that its end rises: the contracts of the closures of zone.open. -/
import Derived.Test.YtjpppffgebecdaaGreatDoorZnB
import Derived.Test.YtjpppffgebecdaaGreatDoorAbK
import Derived.Test.YtjpppffgebecdaaGreatDoorPsh
import Derived.Test.YtjpppffgebecdaaGreatDoorRgQ
namespace Go.Proofs.YtjpppffgebecdaaGreatDoor
open Go Go.RowKit
attribute [local go_sem] Oper.semAt_some

def tmB (n : Int) : Bool := decide (n ≤ -90000 ∨ 90000 ≤ n)
theorem toom_is (n : Int) (v : Bool) (w : World) (hv : Hid (tmB n = v)) : Calls Tryz.prog 84 #[.int .i64 n] w fun e w' => e = .returned (.bool v) ∧ w = w' := by
  have V : (n ≤ -90000 ∧ v = true) ∨ (¬ n ≤ -90000 ∧ 90000 ≤ n ∧ v = true) ∨ (¬ n ≤ -90000 ∧ ¬ 90000 ≤ n ∧ v = false) := by
    have h := hv.out
    unfold tmB at h
    by_cases h1 : n ≤ -90000
    · left; exact ⟨h1, by rw [← h]; simp [h1]⟩
    · by_cases h2 : 90000 ≤ n
      · right; left; exact ⟨h1, h2, by rw [← h]; simp [h2]⟩
      · right; right; exact ⟨h1, h2, by rw [← h]; simp; omega⟩
  clear hv
  rcases V with ⟨h1, rfl⟩ | ⟨h1, h2, rfl⟩ | ⟨h1, h2, rfl⟩
  · go_enter Tryz.func84, Tryz.ntmps84
    go_wp2
    go_ret
    exact ⟨rfl, rfl⟩
  · have h3 : n ≥ 90000 := h2
    go_enter Tryz.func84, Tryz.ntmps84
    go_wp2
    go_ret
    exact ⟨rfl, rfl⟩
  · have h3 : ¬ n ≥ 90000 := h2
    go_enter Tryz.func84, Tryz.ntmps84
    go_wp2
    go_ret
    exact ⟨rfl, rfl⟩
def unV (e : EV) : Value := .agg #[.int .i64 e.uy, .int .i64 e.um, .int .i64 e.dk, .int .i64 e.dw, .int .i64 e.dn, .int .i64 e.sc, .int .i64 e.ck]
/-- What is wrong with an era by itself; ne: what is wrong with its Until. -/
def erE (e : EV) (last : Bool) (ne : Int) : Int :=
  if kdK e.fm = none then 12 else if tmB e.of = true ∨ tmB e.sv = true then 10 else if (e.rl ≠ [] ∧ e.sv ≠ 0) ∨ e.en = last then 12 else if e.en = true then ne else 0
theorem erE_ways (e : EV) (last : Bool) (ne v : Int) (h : erE e last ne = v) :
    (kdK e.fm = none ∧ v = 12) ∨ ∃ k, kdK e.fm = some k ∧ ((tmB e.of = true ∧ v = 10) ∨ (tmB e.of = false ∧ tmB e.sv = true ∧ v = 10) ∨ (tmB e.of = false ∧ tmB e.sv = false ∧
      ((e.rl.isEmpty = false ∧ (e.sv != 0) = true ∧ v = 12) ∨
       (((e.rl.isEmpty = false ∧ e.sv = 0) ∨ e.rl.isEmpty = true) ∧ ((e.en = last ∧ v = 12) ∨ (e.en = true ∧ last = false ∧ v = ne) ∨ (e.en = false ∧ last = true ∧ v = 0)))))) := by
  unfold erE at h
  cases hk : kdK e.fm with
  | none => left; rw [hk] at h; simp at h; exact ⟨rfl, h.symm⟩
  | some k =>
    right
    refine ⟨k, rfl, ?_⟩
    rw [hk, if_neg (by simp)] at h
    cases h1 : tmB e.of
    · cases h2 : tmB e.sv
      · right; right
        refine ⟨rfl, rfl, ?_⟩
        rw [h1, h2, if_neg (by simp)] at h
        cases h3 : e.rl.isEmpty
        · have h3' : e.rl ≠ [] := by intro h; rw [h] at h3; simp at h3
          cases h4 : (e.sv != 0)
          · right
            have h4' : ¬ (e.sv ≠ 0) := by simpa using h4
            refine ⟨.inl ⟨rfl, by simpa using h4⟩, ?_⟩
            cases h5 : e.en <;> cases last <;> simp [h5, h4', h3'] at h ⊢ <;> exact h.symm
          · left
            have h4' : e.sv ≠ 0 := by simpa using h4
            simp [h3', h4'] at h
            exact ⟨rfl, rfl, h.symm⟩
        · right
          have h3' : e.rl = [] := by simpa using h3
          refine ⟨.inr rfl, ?_⟩
          cases h5 : e.en <;> cases last <;> simp [h5, h3'] at h ⊢ <;> exact h.symm
      · right; left
        rw [h1, h2] at h
        simp at h
        exact ⟨rfl, rfl, h.symm⟩
    · left
      rw [h1] at h
      simp at h
      exact ⟨rfl, h.symm⟩
set_option maxRecDepth 20000 in
set_option maxHeartbeats 2000000 in
theorem wera_is (e : EV) (last : Bool) (ne v : Int) (w : World) (HA : Hid (LaidB w)) (HF : Hid (e.fm.length ≤ 1000)) (hN : Hid (e.en = true → ∀ W, Below w.heap.size w W → Calls Tryz.prog 40 #[unV e] W fun x W' => ∃ nv, x = .returned (.tuple #[.int .i64 nv, .int .i64 ne]) ∧ Below W.heap.size W W')) (hv : erE e last ne = v) :
    Calls Tryz.prog 59 #[evV e, .bool last] w fun x w' => x = .returned (.int .i64 v) ∧ Below w.heap.size w w' := by
  have X := Lib.hid (BlkN.make (Below.refl w.heap.size w) (cE e) 54)
  obtain ⟨x0, x1, x2, x3, x4, x5, x6, x7, x8, x9, x10, x11⟩ := cells12 X.out.blk
  have V := erE_ways e last ne v hv
  clear hv
  obtain ⟨of, rl, sv, fm, en, uy, um, dk, dw, dn, sc, ck⟩ := e
  unfold evV unV at *
  unfold cE at *
  simp only at *
  rcases V with ⟨hk, rfl⟩ | ⟨k, hk, V⟩
  · have HK : Hid (kdV fm = 0 ∧ kdE fm = 12) := Lib.hid (by unfold kdV kdE; rw [hk]; exact ⟨rfl, rfl⟩)
    clear hk hN
    go_enter Tryz.func59, Tryz.ntmps59
    go_wp2_with (first | (go_at_call 26; refine (kind_is fm _ _ _ (HA.out.next X.out.bel) HF.out HK).mono ?_; rintro e w1 ⟨rfl, k1⟩; simp only []))
    go_ret
    exact ⟨rfl, bthen X.out.bel k1⟩
  · have HK : Hid (kdV fm = (k : Int) ∧ kdE fm = 0) := Lib.hid (by unfold kdV kdE; rw [hk]; exact ⟨rfl, rfl⟩)
    have TM := Lib.hid (fun n v W h => toom_is n v W h)
    clear hk
    rcases V with ⟨h1, rfl⟩ | ⟨h1, h2, rfl⟩ | ⟨h1, h2, V⟩
    · have T1 := Lib.hid h1
      clear h1 hN
      go_enter Tryz.func59, Tryz.ntmps59
      go_wp2_with (first
        | (go_at_call 26; refine (kind_is fm _ _ _ (HA.out.next X.out.bel) HF.out HK).mono ?_; rintro e w1 ⟨rfl, k1⟩; simp only []
           have X1 := Lib.hid (X.out.next k1)
           clear k1 x0 x1 x2 x3 x4 x5 x6 x7 x8 x9 x10 x11
           obtain ⟨x0, x1, x2, x3, x4, x5, x6, x7, x8, x9, x10, x11⟩ := cells12 X1.out.blk)
        | (go_at_call 84; refine (TM.out _ true _ T1).mono ?_; rintro e w2 ⟨rfl, rfl⟩; simp only []))
      go_ret
      exact ⟨rfl, X1.out.bel⟩
    · have T1 := Lib.hid h1
      have T2 := Lib.hid h2
      clear h1 h2 hN
      go_enter Tryz.func59, Tryz.ntmps59
      go_wp2_with (first
        | (go_at_call 26; refine (kind_is fm _ _ _ (HA.out.next X.out.bel) HF.out HK).mono ?_; rintro e w1 ⟨rfl, k1⟩; simp only []
           have X1 := Lib.hid (X.out.next k1)
           clear k1 x0 x1 x2 x3 x4 x5 x6 x7 x8 x9 x10 x11
           obtain ⟨x0, x1, x2, x3, x4, x5, x6, x7, x8, x9, x10, x11⟩ := cells12 X1.out.blk)
        | (go_at_call 84; refine (TM.out _ false _ T1).mono ?_; rintro e w2 ⟨rfl, rfl⟩; simp only []; clear T1)
        | (go_at_call 84; refine (TM.out _ true _ T2).mono ?_; rintro e w2 ⟨rfl, rfl⟩; simp only []))
      go_ret
      exact ⟨rfl, X1.out.bel⟩
    · have T1 := Lib.hid h1
      have T2 := Lib.hid h2
      clear h1 h2
      rcases V with ⟨h3, h4, rfl⟩ | ⟨⟨h3, rfl⟩ | h3, V⟩
      · clear hN
        go_enter Tryz.func59, Tryz.ntmps59
        go_wp2_with (first
          | (go_at_call 26; refine (kind_is fm _ _ _ (HA.out.next X.out.bel) HF.out HK).mono ?_; rintro e w1 ⟨rfl, k1⟩; simp only []
             have X1 := Lib.hid (X.out.next k1)
             clear k1 x0 x1 x2 x3 x4 x5 x6 x7 x8 x9 x10 x11
             obtain ⟨x0, x1, x2, x3, x4, x5, x6, x7, x8, x9, x10, x11⟩ := cells12 X1.out.blk)
          | (go_at_call 84; refine (TM.out _ false _ T1).mono ?_; rintro e w2 ⟨rfl, rfl⟩; simp only []; clear T1)
          | (go_at_call 84; refine (TM.out _ false _ T2).mono ?_; rintro e w2 ⟨rfl, rfl⟩; simp only []))
        go_ret
        exact ⟨rfl, X1.out.bel⟩
      all_goals
        rcases V with ⟨rfl, rfl⟩ | ⟨rfl, rfl, rfl⟩ | ⟨rfl, rfl, rfl⟩
        · clear hN
          cases en
          all_goals
            go_enter Tryz.func59, Tryz.ntmps59
            go_wp2_with (first
              | (go_at_call 26; refine (kind_is fm _ _ _ (HA.out.next X.out.bel) HF.out HK).mono ?_; rintro e w1 ⟨rfl, k1⟩; simp only []
                 have X1 := Lib.hid (X.out.next k1)
                 clear k1 x0 x1 x2 x3 x4 x5 x6 x7 x8 x9 x10 x11
                 obtain ⟨x0, x1, x2, x3, x4, x5, x6, x7, x8, x9, x10, x11⟩ := cells12 X1.out.blk)
              | (go_at_call 84; refine (TM.out _ false _ T1).mono ?_; rintro e w2 ⟨rfl, rfl⟩; simp only []; clear T1)
              | (go_at_call 84; refine (TM.out _ false _ T2).mono ?_; rintro e w2 ⟨rfl, rfl⟩; simp only []))
            go_ret
            exact ⟨rfl, X1.out.bel⟩
        · have NM := Lib.hid (hN.out rfl)
          clear hN
          go_enter Tryz.func59, Tryz.ntmps59
          go_wp2_with (first
            | (go_at_call 26; refine (kind_is fm _ _ _ (HA.out.next X.out.bel) HF.out HK).mono ?_; rintro e w1 ⟨rfl, k1⟩; simp only []
               have X1 := Lib.hid (X.out.next k1)
               clear k1 x0 x1 x2 x3 x4 x5 x6 x7 x8 x9 x10 x11
               obtain ⟨x0, x1, x2, x3, x4, x5, x6, x7, x8, x9, x10, x11⟩ := cells12 X1.out.blk)
            | (go_at_call 84; refine (TM.out _ false _ T1).mono ?_; rintro e w2 ⟨rfl, rfl⟩; simp only []; clear T1)
            | (go_at_call 84; refine (TM.out _ false _ T2).mono ?_; rintro e w2 ⟨rfl, rfl⟩; simp only [])
            | (go_at_call 40; refine (NM.out _ X1.out.bel).mono ?_; rintro e w3 ⟨nv, rfl, k3⟩; simp only []
               have X2 := Lib.hid (bthen X1.out.bel k3)
               clear k3))
          go_ret
          exact ⟨rfl, X2.out⟩
        · clear hN
          go_enter Tryz.func59, Tryz.ntmps59
          go_wp2_with (first
            | (go_at_call 26; refine (kind_is fm _ _ _ (HA.out.next X.out.bel) HF.out HK).mono ?_; rintro e w1 ⟨rfl, k1⟩; simp only []
               have X1 := Lib.hid (X.out.next k1)
               clear k1 x0 x1 x2 x3 x4 x5 x6 x7 x8 x9 x10 x11
               obtain ⟨x0, x1, x2, x3, x4, x5, x6, x7, x8, x9, x10, x11⟩ := cells12 X1.out.blk)
            | (go_at_call 84; refine (TM.out _ false _ T1).mono ?_; rintro e w2 ⟨rfl, rfl⟩; simp only []; clear T1)
            | (go_at_call 84; refine (TM.out _ false _ T2).mono ?_; rintro e w2 ⟨rfl, rfl⟩; simp only []))
          go_ret
          exact ⟨rfl, X1.out.bel⟩
end Go.Proofs.YtjpppffgebecdaaGreatDoor
