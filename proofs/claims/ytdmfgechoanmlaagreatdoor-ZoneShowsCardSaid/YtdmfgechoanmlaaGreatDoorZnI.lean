/- The law's own example, and the law ZonePlain. -/
import Derived.Test.YtdmfgechoanmlaaGreatDoorZnH
namespace Go.Proofs.YtdmfgechoanmlaaGreatDoor
open Go Go.RowKit
attribute [local go_sem] Oper.semAt_some

def wkE : EV := ⟨3600, [], 0, [67, 69, 84], false, 0, 0, 0, 0, 0, 0, 0⟩
theorem esAt_one {W : World} {g : Nat} {e : EV} {t : TypeId} (h : W.heap[g]? = some (.cells (cE e) t (0, 0))) : EsAt W.heap.size (some ⟨g, 0, none⟩) [e] W := fun i e' he => by
  have hi := (List.getElem?_eq_some_iff.1 he).1
  simp at hi
  subst hi
  simp at he
  subst he
  refine ⟨g, 0, rfl, (Array.getElem?_eq_some_iff.1 h).1, fun j v hv => ?_⟩
  rw [show 0 + 0 * 12 + j = j by omega, cell_of_row W g j _ _ _ h]; exact hv
theorem wk_at (t : Int) (h1 : ¬ (t < -2199023255552 ∨ 2199023255552 < t)) : atE wkE t = 0 ∧ atV wkE t = .agg #[.int .i64 3600, .bool false, .string ⟨#[67, 69, 84]⟩] := by
  have a : erE wkE true 0 = 0 := by decide +kernel
  have b : plE wkE = 0 := by decide +kernel
  have c : shS wkE.fm (wkE.of + wkE.sv) (wkE.sv != 0) [] = [67, 69, 84] := by decide +kernel
  unfold atE atV plV
  rw [a, b, c, if_neg (by simp), if_neg h1, if_neg (by simp), if_neg h1, if_pos rfl]
  exact ⟨rfl, rfl⟩
set_option maxRecDepth 20000 in
theorem zawake_is (w : World) (HA : Hid (LaidB w)) : Calls Tryz.prog 7 #[] w fun x w' => x = .returned (.bool true) ∧ Below w.heap.size w w' := by
  have hmf : ∀ (fn : Fn) (first cap : Array Value) (w : World), (Instr.makeFunc fn first cap).run Tryz.prog w = .ok (.func fn first cap) w := fun _ _ _ _ => rfl
  have X0 := Lib.hid ((BlkN.make (Below.refl w.heap.size w) (cE wkE) 54).more (.cells #[.string ⟨#[88]⟩, .slice (some ⟨w.heap.size, 0, none⟩) 1 1, .slice none 0 0] 27))
  have Y0 := Lib.hid (BlkN.two w (.cells (cE wkE) 54) #[.string ⟨#[88]⟩, .slice (some ⟨w.heap.size, 0, none⟩) 1 1, .slice none 0 0] 27)
  have A1 : Hid (∀ W fn fs lb, BlkN w w.heap.size (cE wkE) 54 W → Calls Tryz.prog 13 #[.agg #[.string ⟨#[88]⟩, .slice (some ⟨w.heap.size, 0, none⟩) 1 1], .func fn fs lb, .int .i64 5] W fun x w' => x = .returned (.tuple #[.agg #[.int .i64 3600, .bool false, .string ⟨#[67, 69, 84]⟩], .int .i64 0]) ∧ Below W.heap.size W w') := Lib.hid fun W fn fs lb hW =>
    at_plain [88] _ 1 wkE fn fs lb 5 0 _ W (esAt_one hW.blk) rfl rfl (Lib.hid (HA.out.next hW.bel)) (Lib.hid (by simp [wkE])) (wk_at 5 (by decide)).1 (wk_at 5 (by decide)).2
  have A2 : Hid (∀ W fn fs lb, BlkN w w.heap.size (cE wkE) 54 W → Calls Tryz.prog 13 #[.agg #[.string ⟨#[88]⟩, .slice (some ⟨w.heap.size, 0, none⟩) 1 1], .func fn fs lb, .int .i64 (-2199023255552)] W fun x w' => x = .returned (.tuple #[.agg #[.int .i64 3600, .bool false, .string ⟨#[67, 69, 84]⟩], .int .i64 0]) ∧ Below W.heap.size W w') := Lib.hid fun W fn fs lb hW =>
    at_plain [88] _ 1 wkE fn fs lb _ 0 _ W (esAt_one hW.blk) rfl rfl (Lib.hid (HA.out.next hW.bel)) (Lib.hid (by simp [wkE])) (wk_at _ (by decide)).1 (wk_at _ (by decide)).2
  obtain ⟨y0, y1, y2⟩ := cel3 Y0.out.blk
  unfold cE wkE at *
  go_enter Tryz.func7, Tryz.ntmps7
  go_wp2_with (first
    | (go_at_call 13; (with_reducible refine (A1.out _ _ _ _ X0.out).mono ?_); rintro x w1 ⟨rfl, k1⟩; simp only []
       have X1 := Lib.hid ((X0.out.next k1).more (.cells #[.int .i64 3600, .bool false, .string ⟨#[67, 69, 84]⟩] 41))
       have Y1 := Lib.hid ((Y0.out.next k1).more (.cells #[.int .i64 3600, .bool false, .string ⟨#[67, 69, 84]⟩] 41))
       have L1 := Lib.hid (BlkN.make (X0.out.next k1).bel #[.int .i64 3600, .bool false, .string ⟨#[67, 69, 84]⟩] 41)
       clear k1 y0 y1 y2
       obtain ⟨y0, y1, y2⟩ := cel3 Y1.out.blk)
    | (go_at_call 13; (with_reducible refine (A2.out _ _ _ _ X1.out).mono ?_); rintro x w2 ⟨rfl, k2⟩; simp only []
       have L2 := Lib.hid ((L1.out.next k2).more (.cells #[.int .i64 3600, .bool false, .string ⟨#[67, 69, 84]⟩] 41))
       have M2 := Lib.hid (BlkN.make (X1.out.next k2).bel #[.int .i64 3600, .bool false, .string ⟨#[67, 69, 84]⟩] 41)
       clear k2 y0 y1 y2
       obtain ⟨a0, a1, a2⟩ := cel3 L2.out.blk
       obtain ⟨b0, b1, b2⟩ := cel3 M2.out.blk))
  go_ret
  exact ⟨rfl, L2.out.bel⟩
set_option maxRecDepth 20000 in
theorem open_nil (nm : List UInt8) (A : Option Addr) (n c : Nat) (w : World) : Calls Tryz.prog 31 #[.agg #[.string ⟨nm.toArray⟩, .slice A n c], .nilFunc] w fun x w' => x = .returned (.tuple #[.agg #[.slice none 0 0, .slice none 0 0], .int .i64 1]) ∧ Below w.heap.size w w' := by
  have hfe : ∀ W, (binOp BinOp.eql 88 Value.nilFunc Value.nilFunc).run Tryz.prog W = .ok (.bool true) W := fun W => by rfl
  have N : Hid (BlkN w (w.heap.size + 2) #[.slice none 0 0, .slice none 0 0] 91 (((w.alloc (.cells #[.string ⟨nm.toArray⟩, .slice A n c] 24)).alloc (.cells #[.nilFunc] 88)).alloc (.cells #[.slice none 0 0, .slice none 0 0] 91))) := by
    have := BlkN.make (((Below.refl w.heap.size w).alloc (Nat.le_refl _) (.cells #[.string ⟨nm.toArray⟩, .slice A n c] 24)).alloc (by simp) (.cells #[.nilFunc] 88)) #[.slice none 0 0, .slice none 0 0] 91
    rwa [World.size_alloc, World.size_alloc] at this
  go_enter Tryz.func31, Tryz.ntmps31
  go_wp2
  refine N.out.ret fun W' B => ?_
  obtain ⟨c0, c1⟩ := cel2 B.blk
  exact bodyPost_ret (by simp [results, Tryz.results31, go_sem, c0, c1]) rfl ⟨rfl, B.bel⟩
theorem check_nil (nm : List UInt8) (A : Option Addr) (n c : Nat) (w : World) : Calls Tryz.prog 9 #[.agg #[.string ⟨nm.toArray⟩, .slice A n c], .nilFunc] w fun x w' => x = .returned (.int .i64 1) ∧ Below w.heap.size w w' := by
  have X0 := Lib.hid (BlkN.make (Below.refl w.heap.size w) #[.string ⟨nm.toArray⟩, .slice A n c] 24)
  have OP := Lib.hid (fun W => open_nil nm A n c W)
  obtain ⟨y0, y1⟩ := cel2 X0.out.blk
  go_enter Tryz.func9, Tryz.ntmps9
  go_wp2_with (first
    | (go_at_call 31; refine (OP.out _).mono ?_; rintro x w1 ⟨rfl, k1⟩; simp only []
       have X1 := Lib.hid ((X0.out.next k1).more (.cells #[.slice none 0 0, .slice none 0 0] 91))
       clear k1 y0 y1))
  go_ret
  exact ⟨rfl, X1.out.bel⟩

/-- The ways that the law goes. -/
def PlW (e : EV) (t : Int) : Prop :=
  (kdK e.fm = none ∧ atE e t = 12 ∧ atV e t = locV 0 false []) ∨
  ∃ k, kdK e.fm = some k ∧ ((atE e t = 10 ∧ atV e t = locV 0 false [] ∧ (e.of ≤ -90000 ∨ (¬ e.of ≤ -90000 ∧ e.of ≥ 90000) ∨ (¬ e.of ≤ -90000 ∧ ¬ e.of ≥ 90000 ∧ e.sv ≤ -90000) ∨ (¬ e.of ≤ -90000 ∧ ¬ e.of ≥ 90000 ∧ ¬ e.sv ≤ -90000 ∧ e.sv ≥ 90000) ∨ (¬ e.of ≤ -90000 ∧ ¬ e.of ≥ 90000 ∧ ¬ e.sv ≤ -90000 ∧ ¬ e.sv ≥ 90000 ∧ t < -2199023255552) ∨ (¬ e.of ≤ -90000 ∧ ¬ e.of ≥ 90000 ∧ ¬ e.sv ≤ -90000 ∧ ¬ e.sv ≥ 90000 ∧ ¬ t < -2199023255552 ∧ t > 2199023255552))) ∨
    (¬ e.of ≤ -90000 ∧ ¬ e.of ≥ 90000 ∧ ¬ e.sv ≤ -90000 ∧ ¬ e.sv ≥ 90000 ∧ ¬ t < -2199023255552 ∧ ¬ t > 2199023255552 ∧ atE e t = plE e ∧ atV e t = plV e))
theorem plain_ways (e : EV) (t : Int) (he : e.rl = []) (hn : e.en = false) : PlW e t := by
  unfold PlW
  have hv : erE e true 0 = if kdK e.fm = none then 12 else if tmB e.of = true ∨ tmB e.sv = true then 10 else 0 := by
    unfold erE
    rw [he, hn]
    simp
  cases hk : kdK e.fm with
  | none =>
    left
    rw [hk, if_pos rfl] at hv
    unfold atE atV
    rw [hv, if_pos (by decide), if_pos (by decide)]
    exact ⟨rfl, rfl, rfl⟩
  | some k =>
    right
    refine ⟨k, rfl, ?_⟩
    rw [hk, if_neg (by simp)] at hv
    by_cases h1 : tmB e.of = true ∨ tmB e.sv = true
    · left
      rw [if_pos h1] at hv
      unfold atE atV
      rw [hv, if_pos (by decide), if_pos (by decide)]
      refine ⟨rfl, rfl, ?_⟩
      unfold tmB at h1
      simp at h1
      omega
    · rw [if_neg h1] at hv
      unfold atE atV
      have z : ¬ ((0 : Int) ≠ 0) := by decide
      rw [hv, if_neg z, if_neg z]
      unfold tmB at h1
      simp at h1
      by_cases h2 : t < -2199023255552 ∨ 2199023255552 < t
      · left
        rw [if_pos h2, if_pos h2]
        exact ⟨rfl, rfl, by omega⟩
      · right
        rw [if_neg h2, if_neg h2]
        exact ⟨by omega, by omega, by omega, by omega, by omega, by omega, rfl, rfl⟩
def plE' (e : EV) : EV := ⟨e.of, [], e.sv, e.fm, false, e.uy, e.um, e.dk, e.dw, e.dn, e.sc, e.ck⟩
end Go.Proofs.YtdmfgechoanmlaaGreatDoor
