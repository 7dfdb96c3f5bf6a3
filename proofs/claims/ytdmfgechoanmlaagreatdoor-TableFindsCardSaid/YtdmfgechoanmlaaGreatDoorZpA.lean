/- Rows of things behind lists of the call's own; the contract of slices.Clone over eras. -/
import Derived.Test.YtdmfgechoanmlaaGreatDoorMZQ
import Derived.Test.YtdmfgechoanmlaaGreatDoorMZY
import Derived.Maps.AppendAt
import Derived.ArgAppend
namespace Go.Proofs.YtdmfgechoanmlaaGreatDoor
open Go Go.RowKit

section
variable {α : Type} {k : Nat} {f : α → Array Value}
theorem gnews (k0 : 0 < k) (hk : ∀ x, (f x).toList.length = k) {L off : Nat} {xs : List α} {w : World} (h : RowsAt k f (some ⟨L, off, none⟩) xs w) : ∀ (j : Nat) (u : Value), (fcl (fun x => (f x).toList) xs)[j]? = some u → w.cell? ((⟨L, off, none⟩ : Addr).add j) = some u := by
  intro j u hu
  have hj := (List.getElem?_eq_some_iff.1 hu).1
  rw [fcl_len hk] at hj
  have hi : j / k < xs.length := Nat.div_lt_of_lt_mul (by rwa [Nat.mul_comm])
  have e : j / k * k + j % k = j := by rw [Nat.mul_comm]; exact Nat.div_add_mod j k
  have hm := Nat.mod_lt j k0
  rw [← e, fcl_at hk (List.getElem?_eq_getElem hi) hm] at hu
  obtain ⟨L', off', e', -, hc⟩ := h (j / k) _ (List.getElem?_eq_getElem hi)
  cases e'
  have := hc (j % k) u hm (by simpa using hu)
  rw [Nat.add_assoc, e] at this
  rw [add_off]
  exact this
theorem gown (hk : ∀ x, (f x).toList.length = k) {W : World} {base g n c : Nat} {e : TypeId} {l : List α} (h : W.ownsRow base e k (.slice (some ⟨g, 0, none⟩) n c) n (fcl (fun x => (f x).toList) l)) : RowsAt k f (some ⟨g, 0, none⟩) l W ∧ n ≤ c ∧ base ≤ g ∧ ∃ cur, W.heap[g]? = some (.cells cur e (0, 0)) ∧ cur.size = c * k := by
  rcases h.2 with ⟨h0, -⟩ | ⟨g', cap, cur, e1, hg, hb, hn, -, hs, hc⟩
  · cases h0
  · cases e1
    refine ⟨fun i x hx => ⟨g, 0, rfl, (Array.getElem?_eq_some_iff.1 hb).1, fun j v hj hv => ?_⟩, hn, hg, cur, hb, hs⟩
    have := fcl_at hk hx hj
    rw [← hc, List.getElem?_take] at this
    have hv' : (f x).toList[j]? = some v := by simpa using hv
    rw [hv'] at this
    split at this
    · have hcl := cell_of_row W g (i * k + j) _ _ _ hb
      rw [Nat.zero_add, hcl, ← this]; simp
    · cases this
end
theorem cE_len (e : EV) : (cE e).toList.length = 12 := rfl
theorem cE_one (e : EV) : ∀ u ∈ (cE e).toList, u.oneCell' = true := by
  intro u hu
  simp [cE] at hu
  rcases hu with rfl | rfl | rfl | rfl | rfl | rfl | rfl | rfl | rfl | rfl | rfl | rfl <;> rfl
theorem ze_info : (Tryz.prog.info? 54).map (fun i => (i.zero, i.size, i.bytes)) = some (some (evV e0V), 12, 112) := by kernel_rfl
set_option maxRecDepth 20000 in
set_option maxHeartbeats 1000000 in
theorem zclone_is (L off n c : Nat) (es : List EV) (w : World) (hn : es.length = n) (hn1 : n ≤ 1000) (h0 : 0 < n) (hE : RowsAt 12 cE (some ⟨L, off, none⟩) es w) :
    Calls Tryz.prog 38 #[.slice (some ⟨L, off, none⟩) n c] w fun e w' => ∃ g c', e = .returned (.slice (some ⟨g, 0, none⟩) n c') ∧ RowsAt 12 cE (some ⟨g, 0, none⟩) es w' ∧ w.heap.size ≤ g ∧ (∃ cur, w'.heap[g]? = some (.cells cur 54 (0, 0))) ∧ Below w.heap.size w w' := by
  obtain ⟨i0, hi, hz0, hz1, hz2⟩ := info_parts ze_info
  have q22 : ∀ (w : World) (a : Option Addr) (n c n' c' : Nat), (binOp .eql 22 (.slice a n c) (.slice none n' c')).run Tryz.prog w = .ok (.bool a.isNone) w := fun w a n c n' c' => Lib.run_eql_slice_nil w _ _ a n c n' c' Tryz.underlying22
  have A := Lib.hid (gnews (by omega) cE_len hE)
  have FL := Lib.hid (fcl_len cE_len es)
  have HN := Lib.hid hn
  clear hE hn
  go_enter Tryz.func38, Tryz.ntmps38
  go_wp2_with (at_builtin; refine wpList_append_own _ rfl _ _ 22 rfl w.heap.size 54 i0 (evV e0V) 12 112 Tryz.underlying22 hi hz0 hz1 hz2 rfl (by decide) _ _ _ rfl (World.ownsRow_made w #[] 0 (Nat.le_refl _) (Nat.zero_le _) rfl) ⟨L, off, none⟩ n c (fcl (fun x => (cE x).toList) es) rfl ?qc1 ?qc2 (fcl_one cE_one _) ?qc4 ?qc5 ?qc6 ?_)
  case qc1 => rw [FL.out, HN.out]
  case qc2 =>
    intro j u hj
    have := A.out j u hj
    rw [add_off] at this ⊢
    exact Lib.cell?_alloc_some _ this
  case qc4 => unfold maxLen; omega
  case qc5 => omega
  case qc6 => simp
  intro v' w1 hown hgrow hnil
  have hb : Below w.heap.size w w1 := ((Below.refl _ w).alloc (Nat.le_refl _) _).grown hgrow (by simp) (by intro k hk; simp [Value.ownBlock] at hk; omega)
  obtain ⟨g, cp, rfl⟩ : ∃ g cp, v' = .slice (some ⟨g, 0, none⟩) n cp := by
    rcases hown.2 with ⟨-, h2⟩ | ⟨g, cap, cur, e, -⟩
    · omega
    · exact ⟨g, cap, e⟩
  have G := Lib.hid (gown cE_len hown)
  have HB := Lib.hid hb
  clear hown hgrow hnil hb
  go_wp2
  go_ret
  obtain ⟨g1, -, g2, cur, g3, -⟩ := G.out
  exact ⟨g, cp, rfl, g1, g2, ⟨cur, g3⟩, HB.out⟩
end Go.Proofs.YtdmfgechoanmlaaGreatDoor
