/- The contracts of lines.RuleWords and LinkWords: which words a rule, and a link, have, or that they have none; nothing that was in memory changes. Written by wip/tools/gencw.py. -/
import Derived.Test.YtfmehdophoejiaaGreatDoorLnY
namespace Go.Proofs.YtfmehdophoejiaaGreatDoor
open Go Go.RowKit

theorem itoa_len {n : Int} (h : in64' n) : (Lib.itoa n).length ≤ 25 := by
  have d : ∀ k : Nat, k < 10 ^ 20 → (Lib.decDigits k).length ≤ 20 := fun k hk => by rw [Lib.decDigits_length]; exact nDig_lt 19 k hk
  unfold in64' at h
  by_cases c : n < 0
  · obtain ⟨k, rfl⟩ : ∃ k : Nat, n = -(k : Int) := ⟨n.natAbs, by omega⟩
    rw [itoa_min k (by omega), List.length_cons]
    have := d k (by omega)
    omega
  · obtain ⟨k, rfl⟩ : ∃ k : Nat, n = (k : Int) := ⟨n.natAbs, by omega⟩
    rw [itoa_pos]
    have := d k (by omega)
    omega
theorem toT_len {f t : Int} (h : in64' t) : (toT f t).length ≤ 25 := by
  unfold toT
  split
  · decide
  · split
    · decide
    · exact itoa_len h
theorem mname_len (m : Int) : (mnameL m).length ≤ 3 := by
  unfold mnameL
  split
  · unfold capL; split <;> simp
  · simp
theorem dyT_len (k wk n : Int) : (dyT k wk n).length ≤ 20 := by
  unfold dyT
  split
  · unfold dfT
    have h1 := numT_len n
    have h2 : (dname wk).length ≤ 3 := by unfold dname; split <;> simp
    have h3 : lastW4.length = 4 := rfl
    split
    · omega
    · split
      · rw [List.length_append]; omega
      · split <;> simp only [List.length_append, List.length_cons, List.length_nil] <;> omega
  · simp
theorem svT_len (n : Int) : (svT n).length ≤ 10 := by
  unfold svT
  split
  · rename_i h; exact textL_len h.1 h.2
  · simp
theorem ckT_len (n k : Int) : (ckT n k).length ≤ 11 := by
  unfold ckT
  split
  · rename_i h
    unfold timeL
    have h1 := textL_len h.1.1 h.1.2
    have h2 : (markL k).length ≤ 1 := by
      unfold markL
      split
      · simp
      · split <;> simp
    rw [List.length_append]; omega
  · simp
theorem orN_len (s : List UInt8) : (orN s).length ≤ s.length + 1 := by
  unfold orN; split <;> simp
theorem rwL_len (r : RV) (h1 : r.nm.length ≤ 100) (h2 : r.lt.length ≤ 100) (h3 : in64' r.fr) (h4 : in64' r.tl) : ∀ p ∈ rwL r, p.length ≤ 500 := by
  have a1 := itoa_len h3
  have a2 := toT_len (f := r.fr) h4
  have a3 := mname_len r.mo
  have a4 := dyT_len r.dk r.dw r.dn
  have a5 := ckT_len r.sc r.ck
  have a6 := svT_len r.sv
  have a7 := orN_len r.lt
  intro p hp
  simp only [rwL, List.mem_cons, List.not_mem_nil, or_false] at hp
  rcases hp with rfl | rfl | rfl | rfl | rfl | rfl | rfl | rfl | rfl | rfl
  · decide
  · omega
  · omega
  · omega
  · decide
  · omega
  · omega
  · omega
  · omega
  · omega
set_option maxRecDepth 20000 in
set_option maxHeartbeats 51200000 in
theorem rw_all (nm : List UInt8) (fr tl mo dk dw dn sc ck sv : Int) (lt : List UInt8) (w : World) (H : LaidQ w) (hf : in64' fr) (ht : in64' tl) (h1 : nm.length ≤ 100) (h2 : lt.length ≤ 100) (ok : Bool) (r' : RV) (v : Int)
    (V : ((v != 0) = true ∧ false = ok) ∨ (0 = v ∧ r' = ⟨nm, fr, tl, mo, dk, dw, dn, sc, ck, sv, []⟩ ∧ [45] = lt ∧ false = ok) ∨ (0 = v ∧ r' = ⟨nm, fr, tl, mo, dk, dw, dn, sc, ck, sv, lt⟩ ∧ true = ok)) (HR : Hid (rlS (rwL ⟨nm, fr, tl, mo, dk, dw, dn, sc, ck, sv, lt⟩) = r' ∧ rlX (rwL ⟨nm, fr, tl, mo, dk, dw, dn, sc, ck, sv, lt⟩) = v)) :
    Calls Tryz.prog 27 #[rvV ⟨nm, fr, tl, mo, dk, dw, dn, sc, ck, sv, lt⟩] w (WordsIs (rwL ⟨nm, fr, tl, mo, dk, dw, dn, sc, ck, sv, lt⟩) ok w) := by
  have HLN : Hid (∀ p ∈ rwL ⟨nm, fr, tl, mo, dk, dw, dn, sc, ck, sv, lt⟩, p.length ≤ 500) := Lib.hid (rwL_len ⟨nm, fr, tl, mo, dk, dw, dn, sc, ck, sv, lt⟩ h1 h2 hf ht)
  obtain ⟨D, hD⟩ : ∃ D, Lib.itoa fr = D := ⟨_, rfl⟩
  obtain ⟨T3, h3⟩ : ∃ T, toT fr tl = T := ⟨_, rfl⟩
  obtain ⟨T5, h5⟩ : ∃ T, mnameL mo = T := ⟨_, rfl⟩
  obtain ⟨e5, h5'⟩ : ∃ T, mnameE mo = T := ⟨_, rfl⟩
  obtain ⟨T6, h6⟩ : ∃ T, dyT dk dw dn = T := ⟨_, rfl⟩
  obtain ⟨T7, h7⟩ : ∃ T, ckT sc ck = T := ⟨_, rfl⟩
  obtain ⟨T8, h8⟩ : ∃ T, svT sv = T := ⟨_, rfl⟩
  obtain ⟨T9, h9⟩ : ∃ T, orN lt = T := ⟨_, rfl⟩
  have EW : rwL ⟨nm, fr, tl, mo, dk, dw, dn, sc, ck, sv, lt⟩ = [ruleL, nm, D, T3, [45], T5, T6, T7, T8, T9] := by show [ruleL, nm, Lib.itoa fr, toT fr tl, [45], mnameL mo, dyT dk dw dn, ckT sc ck, svT sv, orN lt] = _; rw [hD, h3, h5, h6, h7, h8, h9]
  rw [EW] at HR HLN ⊢
  have HD := Lib.hid hD
  have H3 : Hid (toT (RV.fr ⟨nm, fr, tl, mo, dk, dw, dn, sc, ck, sv, lt⟩) (RV.tl ⟨nm, fr, tl, mo, dk, dw, dn, sc, ck, sv, lt⟩) = T3) := Lib.hid h3
  have H5 : Hid (mnameL mo = T5 ∧ mnameE mo = e5) := Lib.hid ⟨h5, h5'⟩
  have H6 := Lib.hid h6
  have H7 := Lib.hid h7
  have H8 := Lib.hid h8
  have H9 := Lib.hid h9
  have HF := Lib.hid hf
  have HT := Lib.hid ht
  have HA := Lib.hid H
  have C6 : Hid (∀ W, LaidQ W → Calls Tryz.prog 73 #[rvV ⟨nm, fr, tl, mo, dk, dw, dn, sc, ck, sv, lt⟩] W fun e w' => e = .returned (.string ⟨T3.toArray⟩) ∧ Below W.heap.size W w') := Lib.hid fun W h => lyt_is ⟨nm, fr, tl, mo, dk, dw, dn, sc, ck, sv, lt⟩ T3 W h.l.ww.pow HT H3
  clear hD h3 h5 h5' h6 h7 h8 h9 hf ht H EW
  simp only [rvV] at C6 ⊢
  go_enter Tryz.func27, Tryz.ntmps27
  go_wp2_with (first
    | (go_at_call 68
       refine (mname_is mo T5 e5 _ (HA.out.next ((Below.refl _ _).alloc (Nat.le_refl _) _)).l.ww H5).mono ?_
       rintro e w1 ⟨rfl, k1⟩
       have X := Lib.hid ((BlkN.make (Below.refl _ _) _ _).next k1)
       obtain ⟨xa0, xa1, xa2, xa3, xa4, xa5, xa6, xa7, xa8, xa9, xa10⟩ := cells11 X.out.blk
       have xaq := X.out.lt
       clear k1
       simp only [])
    | (go_at_call 69
       refine (dpr_is dk dw dn T6 _ (HA.out.next X.out.bel).l.ff H6).mono ?_
       rintro e w2 ⟨⟨x2, rfl⟩, k2⟩
       have X2 := Lib.hid (X.out.next k2)
       clear k2 xa0 xa1 xa2 xa3 xa4 xa5 xa6 xa7 xa8 xa9 xa10 xaq X
       obtain ⟨xb0, xb1, xb2, xb3, xb4, xb5, xb6, xb7, xb8, xb9, xb10⟩ := cells11 X2.out.blk
       have xbq := X2.out.lt
       simp only [])
    | (go_at_call 70
       refine (cpr_is sc ck T7 _ (HA.out.next X2.out.bel).l.pow (HA.out.next X2.out.bel).mrk H7).mono ?_
       rintro e w3 ⟨⟨x3, rfl⟩, k3⟩
       have X3 := Lib.hid (X2.out.next k3)
       clear k3 xb0 xb1 xb2 xb3 xb4 xb5 xb6 xb7 xb8 xb9 xb10 xbq X2
       obtain ⟨xc0, xc1, xc2, xc3, xc4, xc5, xc6, xc7, xc8, xc9, xc10⟩ := cells11 X3.out.blk
       have xcq := X3.out.lt
       simp only [])
    | (go_at_call 71
       refine (ctx_is sv T8 _ (HA.out.next X3.out.bel).l.pow H8).mono ?_
       rintro e w4 ⟨⟨x4, rfl⟩, k4⟩
       have X4 := Lib.hid (X3.out.next k4)
       clear k4 xc0 xc1 xc2 xc3 xc4 xc5 xc6 xc7 xc8 xc9 xc10 xcq X3
       obtain ⟨xd0, xd1, xd2, xd3, xd4, xd5, xd6, xd7, xd8, xd9, xd10⟩ := cells11 X4.out.blk
       have xdq := X4.out.lt
       simp only []))
  have SD : w4.drew.cell? ⟨w.heap.size, 0, none⟩ = some (.string ⟨nm.toArray⟩) ∧ w4.drew.cell? ⟨w.heap.size, 1, none⟩ = some (.int .i64 fr) ∧ w4.drew.cell? ⟨w.heap.size, 2, none⟩ = some (.int .i64 tl) ∧ w4.drew.cell? ⟨w.heap.size, 3, none⟩ = some (.int .i64 mo) ∧ w4.drew.cell? ⟨w.heap.size, 4, none⟩ = some (.int .i64 dk) ∧ w4.drew.cell? ⟨w.heap.size, 5, none⟩ = some (.int .i64 dw) ∧ w4.drew.cell? ⟨w.heap.size, 6, none⟩ = some (.int .i64 dn) ∧ w4.drew.cell? ⟨w.heap.size, 7, none⟩ = some (.int .i64 sc) ∧ w4.drew.cell? ⟨w.heap.size, 8, none⟩ = some (.int .i64 ck) ∧ w4.drew.cell? ⟨w.heap.size, 9, none⟩ = some (.int .i64 sv) ∧ w4.drew.cell? ⟨w.heap.size, 10, none⟩ = some (.string ⟨lt.toArray⟩) := cells11 X4.out.drew.blk
  go_region_held3 (fun w' => w'.cell? ⟨w.heap.size, 0, none⟩ = some (.string ⟨nm.toArray⟩) ∧ w'.cell? ⟨w.heap.size, 1, none⟩ = some (.int .i64 fr) ∧ w'.cell? ⟨w.heap.size, 2, none⟩ = some (.int .i64 tl) ∧ w'.cell? ⟨w.heap.size, 3, none⟩ = some (.int .i64 mo) ∧ w'.cell? ⟨w.heap.size, 4, none⟩ = some (.int .i64 dk) ∧ w'.cell? ⟨w.heap.size, 5, none⟩ = some (.int .i64 dw) ∧ w'.cell? ⟨w.heap.size, 6, none⟩ = some (.int .i64 dn) ∧ w'.cell? ⟨w.heap.size, 7, none⟩ = some (.int .i64 sc) ∧ w'.cell? ⟨w.heap.size, 8, none⟩ = some (.int .i64 ck) ∧ w'.cell? ⟨w.heap.size, 9, none⟩ = some (.int .i64 sv) ∧ w'.cell? ⟨w.heap.size, 10, none⟩ = some (.string ⟨lt.toArray⟩)) (first | exact SD | exact cells11 X4.out.blk | go_keep | exact cells11 (X4.out.drew.next k5).blk | exact cells11 ((X4.out.drew.next k5).next k6).blk | exact cells11 (((X4.out.drew.next k5).next k6).next k7).blk) (first
    | (go_at_call 72; refine (witoa_is fr D _ HF.out.1 HF.out.2 (HA.out.next (bdrew X4.out.bel)).l.ww.pow HD).mono ?_; rintro e w5 ⟨rfl, k5⟩; simp only [])
    | (go_at_call 73; refine (C6.out _ (HA.out.next (bthen (bdrew X4.out.bel) k5))).mono ?_; rintro e w6 ⟨rfl, k6⟩; simp only [])
    | (go_at_call 74; refine (orn_is _ T9 _ H9).mono ?_; rintro e w7 ⟨rfl, k7⟩; simp only []))
  have X7 := Lib.hid (((X4.out.drew.next k5).next k6).next k7)
  clear SD k5 k6 k7 xd0 xd1 xd2 xd3 xd4 xd5 xd6 xd7 xd8 xd9 xd10 xdq X4
  rcases V with ⟨hv, rfl⟩ | ⟨rfl, rfl, rfl, rfl⟩ | ⟨rfl, rfl, rfl⟩
  all_goals
    go_wp2_with (go_at_call 19
                 refine (lrule_is _ 10 10 [ruleL, nm, D, T3, [45], T5, T6, T7, T8, T9] _ rfl HLN.out ?_ (HA.out.next (bmk X7.out.bel _)).l _ _ HR).mono ?_
                 · exact (ListAt.newE _ [ruleL, nm, D, T3, [45], T5, T6, T7, T8, T9] _ _ _ (by simp) rfl).arg
                 rintro e w8 ⟨rfl, k8⟩
                 have X8 := Lib.hid ((X7.out.more _).next k8)
                 have LA : Hid (ListAt w7.heap.size [ruleL, nm, D, T3, [45], T5, T6, T7, T8, T9] w8) := Lib.hid ((ListAt.newE _ [ruleL, nm, D, T3, [45], T5, T6, T7, T8, T9] _ _ _ (by simp) rfl).next k8)
                 clear k8 X7
                 obtain ⟨xe0, xe1, xe2, xe3, xe4, xe5, xe6, xe7, xe8, xe9, xe10⟩ := cells11 X8.out.blk
                 have xeq := X8.out.lt
                 simp only [rvV])
    go_ret2
    first | exact .inr ⟨rfl, rfl, (X8.out.more _).bel⟩ | exact .inl ⟨rfl, _, _, rfl, Nat.le_refl _, ((LA.out.next ((Below.refl _ _).alloc (Nat.le_refl _) _))).arg, (X8.out.more _).bel⟩
/-- RuleWords of a rule. -/
theorem rwords_is (r : RV) (w : World) (H : LaidQ w) (hf : in64' r.fr) (ht : in64' r.tl) (h1 : r.nm.length ≤ 100) (h2 : r.lt.length ≤ 100) :
    Calls Tryz.prog 27 #[rvV r] w (WordsIs (rwL r) (rwB r) w) := by
  have K : ∀ ok, rwB r = ok → ((rlX (rwL r) != 0) = true ∧ false = ok) ∨ (0 = rlX (rwL r) ∧ rlS (rwL r) = { r with lt := [] } ∧ [45] = r.lt ∧ false = ok) ∨ (0 = rlX (rwL r) ∧ rlS (rwL r) = r ∧ true = ok) := by
    rintro ok rfl
    by_cases hx : rlX (rwL r) = 0
    · rcases rule_read r hx with hs | ⟨hl, hs⟩
      · exact .inr (.inr ⟨hx.symm, hs, (decide_eq_true ⟨hx, hs⟩).symm⟩)
      · refine .inr (.inl ⟨hx.symm, hs, hl.symm, (decide_eq_false fun c => ?_).symm⟩)
        have := congrArg RV.lt (hs.symm.trans c.2)
        rw [hl] at this
        cases this
    · exact .inl ⟨by simpa using hx, (decide_eq_false fun c => hx c.1).symm⟩
  have V := K _ rfl
  obtain ⟨nm, fr, tl, mo, dk, dw, dn, sc, ck, sv, lt⟩ := r
  exact rw_all nm fr tl mo dk dw dn sc ck sv lt w H hf ht h1 h2 _ _ _ V (Lib.hid ⟨rfl, rfl⟩)
set_option maxHeartbeats 51200000 in
theorem lw_all (a b : List UInt8) (w : World) (H : LaidL w) (h1 : a.length ≤ 100) (h2 : b.length ≤ 100) (x y : List UInt8) (v : Int) (ok : Bool) (V : (0 = v ∧ true = ok) ∨ ((v != 0) = true ∧ false = ok)) (HR : Hid (lkT [linkL, a, b] = x ∧ lkN [linkL, a, b] = y ∧ lkX [linkL, a, b] = v)) :
    Calls Tryz.prog 32 #[lvV a b] w (WordsIs [linkL, a, b] ok w) := by
  have HLN : Hid (∀ p ∈ [linkL, a, b], p.length ≤ 500) := Lib.hid (by
    intro p hp
    simp only [List.mem_cons, List.not_mem_nil, or_false] at hp
    rcases hp with rfl | rfl | rfl
    · decide
    · omega
    · omega)
  have HA := Lib.hid H
  clear H
  rcases V with ⟨rfl, rfl⟩ | ⟨hv, rfl⟩
  all_goals
    simp only [lvV]
    go_enter Tryz.func32, Tryz.ntmps32
    go_wp2_with (go_at_call 25
                 refine (llink_is _ 3 3 [linkL, a, b] _ rfl HLN.out ?_ (HA.out.next (bmk ((Below.refl _ _).alloc (Nat.le_refl _) _) _)) x y _ HR).mono ?_
                 · exact (ListAt.newE _ [linkL, a, b] _ _ _ (by simp) rfl).arg
                 rintro e w1 ⟨rfl, k1⟩
                 have K1 := Lib.hid (bthen (bmk ((Below.refl _ _).alloc (Nat.le_refl _) _) _) k1)
                 have LA : Hid (ListAt (w.heap.size + 1) [linkL, a, b] w1) := Lib.hid ((ListAt.newE _ [linkL, a, b] _ _ _ (by simp) rfl).next k1)
                 clear k1
                 simp only [lvV])
    go_ret2
    first | exact .inr ⟨rfl, rfl, bmk K1.out _⟩ | exact .inl ⟨rfl, _, _, rfl, Nat.le_refl _, ((LA.out.next ((Below.refl _ _).alloc (Nat.le_refl _) _))).arg, bmk K1.out _⟩
/-- LinkWords of a link. -/
theorem lwords_is (a b : List UInt8) (w : World) (H : LaidL w) (h1 : a.length ≤ 100) (h2 : b.length ≤ 100) :
    Calls Tryz.prog 32 #[lvV a b] w (WordsIs [linkL, a, b] (decide (lkX [linkL, a, b] = 0)) w) := by
  refine lw_all a b w H h1 h2 _ _ _ _ ?_ (Lib.hid ⟨rfl, rfl, rfl⟩)
  by_cases hx : lkX [linkL, a, b] = 0
  · exact .inl ⟨hx.symm, (decide_eq_true hx).symm⟩
  · exact .inr ⟨by simpa using hx, (decide_eq_false hx).symm⟩
end Go.Proofs.YtfmehdophoejiaaGreatDoor
