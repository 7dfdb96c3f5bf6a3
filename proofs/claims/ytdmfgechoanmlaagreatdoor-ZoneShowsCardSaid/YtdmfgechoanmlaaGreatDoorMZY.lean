/- The contract of the document's answer's put: a firing into a row, behind all that are no later; nothing that was in memory changes.
The contract of the document's answer's put: a firing into no row. -/
import Derived.Test.YtdmfgechoanmlaaGreatDoorMZW
import Derived.Test.YtdmfgechoanmlaaGreatDoorMZL
import Derived.Test.YtdmfgechoanmlaaGreatDoorMZK
import Derived.Test.YtdmfgechoanmlaaGreatDoorMZE
import Derived.Laws.AppendOwnNone
namespace Go.Proofs.YtdmfgechoanmlaaGreatDoor
open Go Go.RowKit

/-- A firing, and its rule's place. -/
abbrev PV := FV × Nat
def cP (p : PV) : List Value := [.int .i64 p.1.nm, .int .i64 p.1.kd, .int .i64 p.1.sv, .int .i64 (p.2 : Int), .string ⟨p.1.lt.toArray⟩]
def pvV (p : PV) : Value := .agg #[.int .i64 p.1.nm, .int .i64 p.1.kd, .int .i64 p.1.sv, .int .i64 (p.2 : Int), .string ⟨p.1.lt.toArray⟩]
def ltP (a b : PV) : Bool := decide (a.1.nm < b.1.nm)
theorem wordP : WOrd ltP where
  asym a b h := by unfold ltP at h ⊢; simp at h ⊢; omega
  trans a b c h1 h2 := by unfold ltP at h1 h2 ⊢; simp at h1 h2 ⊢; omega
theorem cP_len (p : PV) : (cP p).length = 5 := rfl
theorem cP_one (p : PV) : ∀ u ∈ cP p, u.oneCell' = true := by intro u hu; simp [cP] at hu; rcases hu with rfl | rfl | rfl | rfl | rfl <;> rfl
theorem pv_info : (Tryz.prog.info? 99).map (fun i => (i.zero, i.size, i.bytes)) = some (some (pvV (⟨0, 0, 0, []⟩, 0)), 5, 48) := by kernel_rfl
def PAt (A : Option Addr) (ps : List PV) (w : World) : Prop := RowsAt 5 (fun p => (cP p).toArray) A ps w
theorem pv_cells {A : Option Addr} {ps : List PV} {w : World} {i : Nat} {p : PV} (h : PAt A ps w) (hp : ps[i]? = some p) : ∃ L off, A = some ⟨L, off, none⟩ ∧ L < w.heap.size ∧
    w.cell? ⟨L, off + i * 5, none⟩ = some (.int .i64 p.1.nm) ∧ w.cell? ⟨L, off + i * 5 + 1, none⟩ = some (.int .i64 p.1.kd) ∧ w.cell? ⟨L, off + i * 5 + 2, none⟩ = some (.int .i64 p.1.sv) ∧ w.cell? ⟨L, off + i * 5 + 3, none⟩ = some (.int .i64 (p.2 : Int)) ∧ w.cell? ⟨L, off + i * 5 + 4, none⟩ = some (.string ⟨p.1.lt.toArray⟩) := by
  obtain ⟨L, off, e, hl, hc⟩ := h i p hp
  exact ⟨L, off, e, hl, hc 0 _ (by omega) rfl, hc 1 _ (by omega) rfl, hc 2 _ (by omega) rfl, hc 3 _ (by omega) rfl, hc 4 _ (by omega) rfl⟩
theorem cells5 {W : World} {g : Nat} {t : TypeId} {v0 v1 v2 v3 v4 : Value} (h : W.heap[g]? = some (.cells #[v0, v1, v2, v3, v4] t (0, 0))) :
    W.cell? ⟨g, 0, none⟩ = some v0 ∧ W.cell? ⟨g, 1, none⟩ = some v1 ∧ W.cell? ⟨g, 2, none⟩ = some v2 ∧ W.cell? ⟨g, 3, none⟩ = some v3 ∧ W.cell? ⟨g, 4, none⟩ = some v4 :=
  ⟨cell_of_row W g 0 _ _ _ h, cell_of_row W g 1 _ _ _ h, cell_of_row W g 2 _ _ _ h, cell_of_row W g 3 _ _ _ h, cell_of_row W g 4 _ _ _ h⟩

theorem rows_sub {α : Type} {c : Nat} {f : α → Array Value} {L off : Nat} {xs ys : List α} {w : World} (i0 : Nat) (h : RowsAt c f (some ⟨L, off, none⟩) xs w) (hy : ∀ (i : Nat) (x : α), ys[i]? = some x → xs[i0 + i]? = some x) : RowsAt c f (some ⟨L, off + i0 * c, none⟩) ys w := fun i x hx => by
  obtain ⟨L', off', e, hl, hc⟩ := h (i0 + i) x (hy i x hx)
  cases e
  exact ⟨L, _, rfl, hl, fun j v hj hv => by rw [Nat.add_assoc off, ← Nat.add_mul]; exact hc j v hj hv⟩
theorem add_off (L off j : Nat) : (⟨L, off, none⟩ : Addr).add j = ⟨L, off + j, none⟩ := by cases j <;> simp [Addr.add]
theorem pat_news {L off : Nat} {xs : List PV} {w : World} (h : PAt (some ⟨L, off, none⟩) xs w) : ∀ (j : Nat) (u : Value), (fcl cP xs)[j]? = some u → w.cell? ((⟨L, off, none⟩ : Addr).add j) = some u := by
  intro j u hu
  have hj := (List.getElem?_eq_some_iff.1 hu).1
  rw [fcl_len cP_len] at hj
  have hi : j / 5 < xs.length := by omega
  have e : j = j / 5 * 5 + j % 5 := by omega
  rw [e, fcl_at cP_len (List.getElem?_eq_getElem hi) (by omega)] at hu
  obtain ⟨L', off', e', -, hc⟩ := h (j / 5) _ (List.getElem?_eq_getElem hi)
  cases e'
  have := hc (j % 5) u (by omega) (by simpa using hu)
  rw [add_off, show off + j = off + j / 5 * 5 + j % 5 by omega]
  exact this
theorem pv_new (W : World) (p : PV) (t : TypeId) : ∀ j u, (cP p)[j]? = some u → (W.alloc (.cells (cP p).toArray t)).cell? ((⟨W.heap.size, 0, none⟩ : Addr).add j) = some u := by
  intro j u hu
  have h := heap_alloc_new W (.cells (cP p).toArray t)
  have := cell_of_row _ W.heap.size j _ _ _ h
  rw [add_off, Nat.zero_add, this]
  simpa using hu
theorem psl_lo (L n c k : Nat) (h : k ≤ n) (hn : n ≤ c) (W : World) : (Instr.slice 55 (.slice (some ⟨L, 0, none⟩) n c) none (some (.int .i64 (k : Int))) none).run Tryz.prog W = .ok (.slice (some ⟨L, 0, none⟩) k c) W := by
  simp [Instr.slice, go_sem]
  intro hh; omega
theorem psl_hi (L n c k H : Nat) (h : k ≤ n) (hH : H = if c = k then 0 else k * 5) (W : World) : (Instr.slice 55 (.slice (some ⟨L, 0, none⟩) n c) (some (.int .i64 (k : Int))) none none).run Tryz.prog W = .ok (.slice (some ⟨L, H, none⟩) (n - k) (c - k)) W := by
  subst hH
  simp [Instr.slice, go_sem]
  rw [if_pos h]
  split <;> rfl
theorem pat_take {L : Nat} {ps : List PV} {w : World} (p : Nat) (h : PAt (some ⟨L, 0, none⟩) ps w) : PAt (some ⟨L, 0, none⟩) (ps.take p) w := by
  have := rows_sub (ys := ps.take p) 0 h fun i x hx => by
    rw [Nat.zero_add]
    rw [List.getElem?_take] at hx
    split at hx
    · exact hx
    · cases hx
  simpa [PAt] using this
theorem pat_drop {L n c H : Nat} {ps : List PV} {w : World} (p : Nat) (hn : ps.length = n) (hp : p ≤ n) (hc : n ≤ c) (hH : H = if c = p then 0 else p * 5) (h : PAt (some ⟨L, 0, none⟩) ps w) : PAt (some ⟨L, H, none⟩) (ps.drop p) w := by
  by_cases e : c = p
  · have : ps.drop p = [] := List.drop_eq_nil_of_le (by omega)
    rw [this]
    intro i x hx
    simp at hx
  · rw [if_neg e] at hH
    subst hH
    have := rows_sub (ys := ps.drop p) p h fun i x hx => by rwa [List.getElem?_drop] at hx
    simpa [PAt] using this
theorem pown_form {W : World} {base n : Nat} {v : Value} {xs : List Value} (h : W.ownsRow base 99 5 v (n + 1) xs) : ∃ g c, v = .slice (some ⟨g, 0, none⟩) (n + 1) c := by
  rcases h.2 with ⟨-, h0⟩ | ⟨g, c, cur, e, -⟩
  · omega
  · exact ⟨g, c, e⟩
theorem BlkN.gr {w W W1 : World} {g : Nat} {C : Array Value} {t : TypeId} {row : Option Nat} (h : BlkN w g C t W) (k : W.grownBy W1 row) (hr : ∀ r, row = some r → w.heap.size ≤ r ∧ r ≠ g) : BlkN w g C t W1 :=
  ⟨h.bel.grown k h.bel.size (fun r e => (hr r e).1), h.ge, (k.block g h.lt (fun e => (hr g e.symm).2 rfl)).trans h.blk⟩
theorem own_pat {W : World} {base g n c : Nat} {e : TypeId} {ps : List PV} (h : W.ownsRow base e 5 (.slice (some ⟨g, 0, none⟩) n c) n (fcl cP ps)) : PAt (some ⟨g, 0, none⟩) ps W ∧ n ≤ c := by
  rcases h.2 with ⟨h0, -⟩ | ⟨g', cap, cur, e1, -, hb, hn, -, -, hc⟩
  · cases h0
  · cases e1
    refine ⟨fun i x hx => ⟨g, 0, rfl, (Array.getElem?_eq_some_iff.1 hb).1, fun j v hj hv => ?_⟩, hn⟩
    have := fcl_at cP_len hx hj
    rw [← hc, List.getElem?_take] at this
    have hv' : (cP x)[j]? = some v := by simpa using hv
    rw [hv'] at this
    split at this
    · have hcl := cell_of_row W g (i * 5 + j) _ _ _ hb
      rw [Nat.zero_add, hcl, ← this]; simp
    · cases this
theorem pput_done {w W : World} {v : Value} {base n p m : Nat} {e : TypeId} {ps : List PV} {f : PV} (h : W.ownsRow base e 5 v m (fcl cP (ps.take p) ++ cP f ++ fcl cP (ps.drop p))) (hb : Below w.heap.size w W) (hm : m = n + 1) (hi : ins ltP f ps = ps.take p ++ f :: ps.drop p) :
    ∃ g c', Ending.returned v = .returned (.slice (some ⟨g, 0, none⟩) (n + 1) c') ∧ (PAt (some ⟨g, 0, none⟩) (ins ltP f ps) W ∧ n + 1 ≤ c') ∧ Below w.heap.size w W := by
  subst hm
  rcases h.2 with ⟨-, h0⟩ | ⟨g, c, cur, rfl, -⟩
  · omega
  · refine ⟨g, c, rfl, ?_, hb⟩
    rw [hi]
    refine own_pat (base := base) (e := e) ?_
    have e : fcl cP (ps.take p ++ f :: ps.drop p) = fcl cP (ps.take p) ++ cP f ++ fcl cP (ps.drop p) := by simp [fcl, List.append_assoc]
    rw [e]; exact h

set_option maxRecDepth 20000 in
set_option maxHeartbeats 8000000 in
theorem xput_is (L : Nat) (n c : Nat) (ps : List PV) (f : PV) (w : World) (hP : PAt (some ⟨L, 0, none⟩) ps w) (hn : ps.length = n) (hc : n ≤ c) (hn1 : n ≤ 100000) (hs : Srt ltP ps) (hq : ∀ q ∈ ps, q.2 ≤ f.2) :
    Calls Tryz.prog 66 #[.slice (some ⟨L, 0, none⟩) n c, pvV f] w fun e w' => ∃ g c', e = .returned (.slice (some ⟨g, 0, none⟩) (n + 1) c') ∧ (PAt (some ⟨g, 0, none⟩) (ins ltP f ps) w' ∧ n + 1 ≤ c') ∧ Below w.heap.size w w' := by
  have X0 := Lib.hid (BlkN.make (Below.refl w.heap.size w) (cP f).toArray 99)
  have HP := Lib.hid hP
  have HN := Lib.hid hn
  have HS := Lib.hid hs
  have HQ := Lib.hid hq
  obtain ⟨i0, hi0, hz0, hz1, hz2⟩ := info_parts pv_info
  clear hP hs hq hn
  unfold pvV
  go_enter Tryz.func66, Tryz.ntmps66
  go_wp2
  go_loopw [5] (fun v wr => ∃ p : Nat, v = .int .i64 p ∧ p ≤ n ∧ (p = n ∨ ∃ y, ps[p]? = some y ∧ ltP f y = true) ∧ BlkN w w.heap.size (cP f).toArray 99 wr) (fun v _ => (intOf v).toNat)
  case atStart => exact ⟨n, rfl, Nat.le_refl _, .inl rfl, X0.out⟩
  case round =>
    clear X0
    obtain ⟨p, rfl, hp, hpos, hX⟩ := hrel
    have X := Lib.hid hX
    have HP1 := Lib.hid hpos
    obtain ⟨c0, c1, c2, c3, c4⟩ := cells5 hX.blk
    clear hX hpos
    by_cases h0 : p = 0
    · have hd : decide (0 < p) = false := by simp [h0]
      have H0 := Lib.hid h0
      clear h0
      go_wp2
      go_quiet (fail)
      have sl1 := psl_lo L n c p hp hc
      obtain ⟨H, hH⟩ : ∃ H, H = if c = p then 0 else p * 5 := ⟨_, rfl⟩
      have sl2 := psl_hi L n c p H hp hH
      have X1 := Lib.hid (X.out.drewN nq)
      have PT := Lib.hid (pat_take p (RowsAt.next HP.out X1.out.bel))
      have HH := Lib.hid hH
      have LT : Hid ((ps.take p).length = p) := Lib.hid (by rw [List.length_take, HN.out]; omega)
      have LD : Hid ((ps.drop p).length = n - p) := Lib.hid (by rw [List.length_drop, HN.out])
      have INS : Hid (ins ltP f ps = ps.take p ++ f :: ps.drop p) := Lib.hid (mrg_one_right wordP HS.out (by rw [HN.out]; omega) (.inl H0.out) (by rw [HN.out]; exact HP1.out))
      clear hH c0 c1 c2 c3 c4
      have tk1 : True := trivial
      have tk2 : True := trivial
      have tk3 : True := trivial
      go_wp2_with (first
        | (have _t := tk1; at_builtin; refine wpList_append_own _ rfl (.tmp 52) (.tmp 55) _ rfl (w.heap.size + 1) 99 i0 (pvV (⟨0, 0, 0, []⟩, 0)) 5 48 Tryz.underlying55 hi0 hz0 hz1 hz2 rfl (by decide) _ _ _ rfl (World.ownsRow_nil _ _ _ _) ⟨L, 0, none⟩ p c (fcl cP (ps.take p)) rfl (by rw [fcl_len cP_len, LT.out]) (pat_news PT.out) (fcl_one cP_one _) (by unfold maxLen; omega) (by omega) X1.out.lt ?_
           intro v1 w1 own1 gr1 nil1
           rw [Nat.zero_add, List.nil_append] at own1
           have OW1 := Lib.hid own1
           have X2 := Lib.hid (X1.out.gr gr1 (fun r hr => by cases hr))
           obtain ⟨y0, y1, y2, y3, y4⟩ := cells5 X2.out.blk
           clear own1 gr1 nil1 tk1)
        | (have _t := tk2; at_builtin; refine wpList_append_own _ rfl (.tmp 57) (.tmp 59) _ rfl (w.heap.size + 1) 99 i0 (pvV (⟨0, 0, 0, []⟩, 0)) 5 48 Tryz.underlying55 hi0 hz0 hz1 hz2 rfl (by decide) _ _ _ rfl (OW1.out.alloc _) ⟨w1.heap.size, 0, none⟩ 1 1 (cP f) rfl rfl (pv_new w1 f _) (cP_one _) (by unfold maxLen; omega) (by omega) (by have := X2.out.lt; simp; omega) ?_
           intro v2 w2 own2 gr2 nil2
           have OW2 := Lib.hid own2
           obtain ⟨g2, cc2, rfl⟩ := pown_form own2
           have X3 := Lib.hid ((X2.out.more (.cells (cP f).toArray 99)).gr gr2 (fun r hr => by have := OW1.out.lt r hr; omega))
           have PD := Lib.hid (pat_drop p HN.out hp hc HH.out (RowsAt.next HP.out X3.out.bel))
           clear own2 gr2 nil2 tk2 y0 y1 y2 y3 y4)
        | (have _t := tk3; at_builtin; refine wpList_append_own _ rfl (.tmp 61) (.tmp 64) _ rfl (w.heap.size + 1) 99 i0 (pvV (⟨0, 0, 0, []⟩, 0)) 5 48 Tryz.underlying55 hi0 hz0 hz1 hz2 rfl (by decide) _ _ _ rfl OW2.out ⟨L, H, none⟩ (n - p) (c - p) (fcl cP (ps.drop p)) rfl (by rw [fcl_len cP_len, LD.out]) (pat_news PD.out) (fcl_one cP_one _) (by unfold maxLen; omega) (by omega) X3.out.lt ?_
           intro v3 w3 own3 gr3 nil3
           have OW3 := Lib.hid own3
           have X4 := Lib.hid (X3.out.gr gr3 (fun r hr => by have := OW2.out.lt r hr; omega))
           clear own3 gr3 nil3 tk3)
        | fail)
      go_ret
      exact pput_done OW3.out X4.out.bel (by omega) INS.out
    · obtain ⟨k, hk⟩ : ∃ k, p = k + 1 := ⟨p - 1, by omega⟩
      obtain ⟨q, hq⟩ : ∃ q, ps[k]? = some q := ⟨_, List.getElem?_eq_getElem (by rw [HN.out]; omega)⟩
      have hqf := HQ.out q (List.mem_of_getElem? hq)
      obtain ⟨L', off, e, -, b0, -, -, b3, -⟩ := pv_cells (RowsAt.next HP.out X.out.bel) hq
      cases e
      simp only [Nat.zero_add] at b0 b3
      have hd : decide (0 < p) = true := by simp; omega
      have e1 : IntKind.i64.wrap ((p : Int) - 1) = (k : Int) := by rw [IntWalk.i64_in _ (by omega)]; omega
      have e2 : (p : Int) - 1 = (k : Int) := by omega
      have e3 : (k : Int) < (n : Int) := by omega
      have HK := Lib.hid hq
      have HQ3 : Hid (ps[p - 1]? = some q) := Lib.hid (by rw [hk, Nat.add_sub_cancel]; exact hq)
      have KP := Lib.hid hk
      clear hq h0 hk
      by_cases hgt : f.1.nm < q.1.nm
      · have g1 : q.1.nm > f.1.nm := hgt
        have LQ : Hid (ltP f q = true) := Lib.hid (by simp [ltP, hgt])
        go_wp2
        go_quiet (fail)
        go_wp2
        go_round
        case rel => exact ⟨k, rfl, by have := KP.out; omega, .inr ⟨q, HK.out, LQ.out⟩, X.out.drewN _⟩
        case measure => simp [intOf]; have := KP.out; omega
      · have LQ : Hid (ltP f q = false) := Lib.hid (by simp [ltP]; omega)
        have g1 : decide (f.1.nm < q.1.nm) = false := by simp; omega
        by_cases heq : q.1.nm = f.1.nm
        · have g2 : (q.1.nm == f.1.nm) = true := by simp [heq]
          have g3 : decide ((f.2 : Int) < (q.2 : Int)) = false := by simp; omega
          have g4 : decide (f.2 < q.2) = false := by simp; omega
          clear heq hgt
          go_wp2
          go_quiet (fail)
          have sl1 := psl_lo L n c p hp hc
          obtain ⟨H, hH⟩ : ∃ H, H = if c = p then 0 else p * 5 := ⟨_, rfl⟩
          have sl2 := psl_hi L n c p H hp hH
          have X1 := Lib.hid (X.out.drewN nq)
          have PT := Lib.hid (pat_take p (RowsAt.next HP.out X1.out.bel))
          have HH := Lib.hid hH
          have LT : Hid ((ps.take p).length = p) := Lib.hid (by rw [List.length_take, HN.out]; omega)
          have LD : Hid ((ps.drop p).length = n - p) := Lib.hid (by rw [List.length_drop, HN.out])
          have INS : Hid (ins ltP f ps = ps.take p ++ f :: ps.drop p) := Lib.hid (mrg_one_right wordP HS.out (by rw [HN.out]; omega) (.inr ⟨q, HQ3.out, LQ.out⟩) (by rw [HN.out]; exact HP1.out))
          clear hH c0 c1 c2 c3 c4
          have tk1 : True := trivial
          have tk2 : True := trivial
          have tk3 : True := trivial
          go_wp2_with (first
            | (have _t := tk1; at_builtin; refine wpList_append_own _ rfl (.tmp 52) (.tmp 55) _ rfl (w.heap.size + 1) 99 i0 (pvV (⟨0, 0, 0, []⟩, 0)) 5 48 Tryz.underlying55 hi0 hz0 hz1 hz2 rfl (by decide) _ _ _ rfl (World.ownsRow_nil _ _ _ _) ⟨L, 0, none⟩ p c (fcl cP (ps.take p)) rfl (by rw [fcl_len cP_len, LT.out]) (pat_news PT.out) (fcl_one cP_one _) (by unfold maxLen; omega) (by omega) X1.out.lt ?_
               intro v1 w1 own1 gr1 nil1
               rw [Nat.zero_add, List.nil_append] at own1
               have OW1 := Lib.hid own1
               have X2 := Lib.hid (X1.out.gr gr1 (fun r hr => by cases hr))
               obtain ⟨y0, y1, y2, y3, y4⟩ := cells5 X2.out.blk
               clear own1 gr1 nil1 tk1)
            | (have _t := tk2; at_builtin; refine wpList_append_own _ rfl (.tmp 57) (.tmp 59) _ rfl (w.heap.size + 1) 99 i0 (pvV (⟨0, 0, 0, []⟩, 0)) 5 48 Tryz.underlying55 hi0 hz0 hz1 hz2 rfl (by decide) _ _ _ rfl (OW1.out.alloc _) ⟨w1.heap.size, 0, none⟩ 1 1 (cP f) rfl rfl (pv_new w1 f _) (cP_one _) (by unfold maxLen; omega) (by omega) (by have := X2.out.lt; simp; omega) ?_
               intro v2 w2 own2 gr2 nil2
               have OW2 := Lib.hid own2
               obtain ⟨g2, cc2, rfl⟩ := pown_form own2
               have X3 := Lib.hid ((X2.out.more (.cells (cP f).toArray 99)).gr gr2 (fun r hr => by have := OW1.out.lt r hr; omega))
               have PD := Lib.hid (pat_drop p HN.out hp hc HH.out (RowsAt.next HP.out X3.out.bel))
               clear own2 gr2 nil2 tk2 y0 y1 y2 y3 y4)
            | (have _t := tk3; at_builtin; refine wpList_append_own _ rfl (.tmp 61) (.tmp 64) _ rfl (w.heap.size + 1) 99 i0 (pvV (⟨0, 0, 0, []⟩, 0)) 5 48 Tryz.underlying55 hi0 hz0 hz1 hz2 rfl (by decide) _ _ _ rfl OW2.out ⟨L, H, none⟩ (n - p) (c - p) (fcl cP (ps.drop p)) rfl (by rw [fcl_len cP_len, LD.out]) (pat_news PD.out) (fcl_one cP_one _) (by unfold maxLen; omega) (by omega) X3.out.lt ?_
               intro v3 w3 own3 gr3 nil3
               have OW3 := Lib.hid own3
               have X4 := Lib.hid (X3.out.gr gr3 (fun r hr => by have := OW2.out.lt r hr; omega))
               clear own3 gr3 nil3 tk3)
            | fail)
          go_ret
          exact pput_done OW3.out X4.out.bel (by omega) INS.out
        · have g2 : (q.1.nm == f.1.nm) = false := by simp [heq]
          clear heq hgt
          go_wp2
          go_quiet (fail)
          have sl1 := psl_lo L n c p hp hc
          obtain ⟨H, hH⟩ : ∃ H, H = if c = p then 0 else p * 5 := ⟨_, rfl⟩
          have sl2 := psl_hi L n c p H hp hH
          have X1 := Lib.hid (X.out.drewN nq)
          have PT := Lib.hid (pat_take p (RowsAt.next HP.out X1.out.bel))
          have HH := Lib.hid hH
          have LT : Hid ((ps.take p).length = p) := Lib.hid (by rw [List.length_take, HN.out]; omega)
          have LD : Hid ((ps.drop p).length = n - p) := Lib.hid (by rw [List.length_drop, HN.out])
          have INS : Hid (ins ltP f ps = ps.take p ++ f :: ps.drop p) := Lib.hid (mrg_one_right wordP HS.out (by rw [HN.out]; omega) (.inr ⟨q, HQ3.out, LQ.out⟩) (by rw [HN.out]; exact HP1.out))
          clear hH c0 c1 c2 c3 c4
          have tk1 : True := trivial
          have tk2 : True := trivial
          have tk3 : True := trivial
          go_wp2_with (first
            | (have _t := tk1; at_builtin; refine wpList_append_own _ rfl (.tmp 52) (.tmp 55) _ rfl (w.heap.size + 1) 99 i0 (pvV (⟨0, 0, 0, []⟩, 0)) 5 48 Tryz.underlying55 hi0 hz0 hz1 hz2 rfl (by decide) _ _ _ rfl (World.ownsRow_nil _ _ _ _) ⟨L, 0, none⟩ p c (fcl cP (ps.take p)) rfl (by rw [fcl_len cP_len, LT.out]) (pat_news PT.out) (fcl_one cP_one _) (by unfold maxLen; omega) (by omega) X1.out.lt ?_
               intro v1 w1 own1 gr1 nil1
               rw [Nat.zero_add, List.nil_append] at own1
               have OW1 := Lib.hid own1
               have X2 := Lib.hid (X1.out.gr gr1 (fun r hr => by cases hr))
               obtain ⟨y0, y1, y2, y3, y4⟩ := cells5 X2.out.blk
               clear own1 gr1 nil1 tk1)
            | (have _t := tk2; at_builtin; refine wpList_append_own _ rfl (.tmp 57) (.tmp 59) _ rfl (w.heap.size + 1) 99 i0 (pvV (⟨0, 0, 0, []⟩, 0)) 5 48 Tryz.underlying55 hi0 hz0 hz1 hz2 rfl (by decide) _ _ _ rfl (OW1.out.alloc _) ⟨w1.heap.size, 0, none⟩ 1 1 (cP f) rfl rfl (pv_new w1 f _) (cP_one _) (by unfold maxLen; omega) (by omega) (by have := X2.out.lt; simp; omega) ?_
               intro v2 w2 own2 gr2 nil2
               have OW2 := Lib.hid own2
               obtain ⟨g2, cc2, rfl⟩ := pown_form own2
               have X3 := Lib.hid ((X2.out.more (.cells (cP f).toArray 99)).gr gr2 (fun r hr => by have := OW1.out.lt r hr; omega))
               have PD := Lib.hid (pat_drop p HN.out hp hc HH.out (RowsAt.next HP.out X3.out.bel))
               clear own2 gr2 nil2 tk2 y0 y1 y2 y3 y4)
            | (have _t := tk3; at_builtin; refine wpList_append_own _ rfl (.tmp 61) (.tmp 64) _ rfl (w.heap.size + 1) 99 i0 (pvV (⟨0, 0, 0, []⟩, 0)) 5 48 Tryz.underlying55 hi0 hz0 hz1 hz2 rfl (by decide) _ _ _ rfl OW2.out ⟨L, H, none⟩ (n - p) (c - p) (fcl cP (ps.drop p)) rfl (by rw [fcl_len cP_len, LD.out]) (pat_news PD.out) (fcl_one cP_one _) (by unfold maxLen; omega) (by omega) X3.out.lt ?_
               intro v3 w3 own3 gr3 nil3
               have OW3 := Lib.hid own3
               have X4 := Lib.hid (X3.out.gr gr3 (fun r hr => by have := OW2.out.lt r hr; omega))
               clear own3 gr3 nil3 tk3)
            | fail)
          go_ret
          exact pput_done OW3.out X4.out.bel (by omega) INS.out
end Go.Proofs.YtdmfgechoanmlaaGreatDoor

namespace Go.Proofs.YtdmfgechoanmlaaGreatDoor
open Go Go.RowKit

theorem psl_no1 (W : World) : (Instr.slice 55 (.slice none 0 0) none (some (.int .i64 0)) none).run Tryz.prog W = .ok (.slice none 0 0) W := by
  simp [Instr.slice, go_sem]
theorem psl_no2 (W : World) : (Instr.slice 55 (.slice none 0 0) (some (.int .i64 0)) none none).run Tryz.prog W = .ok (.slice none 0 0) W := by
  simp [Instr.slice, go_sem]
theorem pput_one {w W : World} {v : Value} {base : Nat} {e : TypeId} {f : PV} (h : W.ownsRow base e 5 v 1 (cP f)) (hb : Below w.heap.size w W) :
    ∃ g c', Ending.returned v = .returned (.slice (some ⟨g, 0, none⟩) (0 + 1) c') ∧ (PAt (some ⟨g, 0, none⟩) (ins ltP f []) W ∧ 0 + 1 ≤ c') ∧ Below w.heap.size w W := by
  rcases h.2 with ⟨-, h0⟩ | ⟨g, c, cur, rfl, -⟩
  · omega
  · refine ⟨g, c, rfl, ?_, hb⟩
    refine own_pat (base := base) (e := e) ?_
    have e : fcl cP (ins ltP f []) = cP f := by simp [fcl, ins]
    rw [e]; exact h

set_option maxRecDepth 20000 in
set_option maxHeartbeats 8000000 in
theorem xput_no (f : PV) (w : World) :
    Calls Tryz.prog 66 #[.slice none 0 0, pvV f] w fun e w' => ∃ g c', e = .returned (.slice (some ⟨g, 0, none⟩) (0 + 1) c') ∧ (PAt (some ⟨g, 0, none⟩) (ins ltP f []) w' ∧ 0 + 1 ≤ c') ∧ Below w.heap.size w w' := by
  have X0 := Lib.hid (BlkN.make (Below.refl w.heap.size w) (cP f).toArray 99)
  obtain ⟨i0, hi0, hz0, hz1, hz2⟩ := info_parts pv_info
  unfold pvV
  go_enter Tryz.func66, Tryz.ntmps66
  go_wp2
  go_loopw [5] (fun v wr => v = .int .i64 0 ∧ BlkN w w.heap.size (cP f).toArray 99 wr) (fun v _ => 0)
  case atStart => exact ⟨rfl, X0.out⟩
  case round =>
    clear X0
    obtain ⟨rfl, hX⟩ := hrel
    have X := Lib.hid hX
    clear hX
    go_wp2
    go_quiet (fail)
    have X1 := Lib.hid (X.out.drewN nq)
    obtain ⟨y0, y1, y2, y3, y4⟩ := cells5 X1.out.blk
    have tk1 : True := trivial
    have tk2 : True := trivial
    have tk3 : True := trivial
    have sl1 := psl_no1
    have sl2 := psl_no2
    go_wp2_with (first
      | (have _t := tk1; at_builtin; refine wpList_append_own_none rfl (.tmp 52) (.tmp 55) _ rfl (w.heap.size + 1) 99 i0 5 Tryz.underlying55 hi0 _ _ _ rfl (World.ownsRow_nil _ _ _ _) rfl ?_
         clear tk1)
      | (have _t := tk2; at_builtin; refine wpList_append_own _ rfl (.tmp 57) (.tmp 59) _ rfl (w.heap.size + 1) 99 i0 (pvV (⟨0, 0, 0, []⟩, 0)) 5 48 Tryz.underlying55 hi0 hz0 hz1 hz2 rfl (by decide) _ _ _ rfl (World.ownsRow_nil _ _ _ _) ⟨(wr.drewN nq).heap.size, 0, none⟩ 1 1 (cP f) rfl rfl (pv_new (wr.drewN nq) f _) (cP_one _) (by unfold maxLen; omega) (by omega) (by have := X1.out.lt; simp at this ⊢; omega) ?_
         intro v2 w2 own2 gr2 nil2
         rw [Nat.zero_add, List.nil_append] at own2
         have OW2 := Lib.hid own2
         obtain ⟨g2, cc2, rfl⟩ := pown_form own2
         have X3 := Lib.hid ((X1.out.more (.cells (cP f).toArray 99)).gr gr2 (fun r hr => by cases hr))
         clear own2 gr2 nil2 tk2 y0 y1 y2 y3 y4)
      | (have _t := tk3; at_builtin; refine wpList_append_own_none rfl (.tmp 61) (.tmp 64) _ rfl (w.heap.size + 1) 99 i0 5 Tryz.underlying55 hi0 _ _ _ rfl OW2.out rfl ?_
         clear tk3)
      | fail)
    go_ret
    exact pput_one OW2.out X3.out.bel
end Go.Proofs.YtdmfgechoanmlaaGreatDoor
