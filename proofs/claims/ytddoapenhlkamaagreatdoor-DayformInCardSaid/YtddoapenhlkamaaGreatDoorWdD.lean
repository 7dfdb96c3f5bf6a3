/- The contract of words.find: the place of the word of a list that a word is, or that it is none, or several; nothing that was in memory changes. The tables of unicode/utf8 read as they are laid. -/
import Derived.Test.YtddoapenhlkamaaGreatDoorWdC
namespace Go.Proofs.YtddoapenhlkamaaGreatDoor
open Go.RowKit Go.Shelf
attribute [local go_sem] Oper.semAt_some

theorem wscope_in {c : Code} {n : Nat} {Q : Exit → Act → World → Prop} {a : Act} {w : World} (h : c.wpIn Fence.wide n Tryz.prog (Exit.noGoto Q) a w) : (Code.scope c).wpIn Fence.wide n Tryz.prog Q a w := wpIn_wide.2 (wp_scope_straight (wpIn_wide.1 h))

/-- What the two variables of find hold. -/
structure TwoI (g : Nat) (a b : Int) (W : World) : Prop where
  x : Go.Boxed W g 3 (.int .i64 a)
  y : Go.Boxed W (g + 1) 3 (.int .i64 b)
theorem TwoI.next {g : Nat} {a b : Int} {W W1 : World} (h : TwoI g a b W) (k : Below W.heap.size W W1) : TwoI g a b W1 := ⟨(k.block g h.x.lt).trans h.x, (k.block (g + 1) h.y.lt).trans h.y⟩
theorem TwoI.set {g : Nat} {a b : Int} {W : World} (h : TwoI g a b W) (v : Int) : TwoI g v b (W.setCell ⟨g, 0, none⟩ (.int .i64 v)) := ⟨h.x.set _, h.y.other (by omega) _⟩
theorem TwoI.set2 {g : Nat} {a b : Int} {W : World} (h : TwoI g a b W) (v : Int) : TwoI g a v (W.setCell ⟨g + 1, 0, none⟩ (.int .i64 v)) := ⟨h.x.other (by omega) _, h.y.set _⟩
theorem twoI_own {β : Type} (g B : Nat) (f h : β → Int) : OwnFrom B (fun s W => TwoI g (f s) (h s) W) := fun s X Y row hs hg hrow =>
  ⟨Own.from (boxed_own g 3 (fun s => .int .i64 (f s))) B s X Y row hs.x hg hrow, Own.from (boxed_own (g + 1) 3 (fun s => .int .i64 (h s))) B s X Y row hs.y hg hrow⟩

/-- What the rounds write: the two variables alone. -/
theorem keeps2_one {g N : Nat} (W : World) (v : Value) : Keeps2 g N W (W.setCell ⟨g, 0, none⟩ v) :=
  ⟨(Below.refl g W).setCell (p := ⟨g, 0, none⟩) (Nat.le_refl _) _, fun j h1 _ => Below.heap_setCell W _ v _ (by show j ≠ g; omega)⟩
theorem keeps2_two {g N : Nat} (W : World) (v : Value) : Keeps2 g N W (W.setCell ⟨g + 1, 0, none⟩ v) :=
  ⟨(Below.refl g W).setCell (p := ⟨g + 1, 0, none⟩) (by show g ≤ g + 1; omega) _, fun j h1 _ => Below.heap_setCell W _ v _ (by show j ≠ g + 1; omega)⟩
theorem keeps2_b {g N : Nat} {w : World} (hg : g ≤ w.heap.size) (hN : N ≤ w.heap.size) (W : World) (l : Nat) (o o' : Obj) (hl : w.heap.size ≤ l) (h : W.heap[l]? = some o) (h1 : o.isCells = false) (h2 : o.isWalk = false) : Keeps2 g N W (W.putObj l o') :=
  ⟨belowK_b hg W l o o' hl h h1 h2, fun j _ hj => by
    have hne : l ≠ j := by omega
    simp [World.putObj, hne]⟩

def lastW (pre : List Pl) : Bool := noneW ((pre.map Subtype.val).dropLast) && ((pre.map Subtype.val).getLast?.map (·.2)).getD false

theorem find_done {b s : List UInt8} {ws : List (List UInt8)} (hb : meantL b ws 0 = meantL (low s) ws 0) (hw : ∀ w ∈ ws, w ≠ []) {xs : List Pl} (hx : xs.map Subtype.val = meantL b ws 0) (hn : noneW (xs.map Subtype.val) = true) :
    findL (low s) ws = if xs.length = 1 then some (lastP 0 (xs.map Subtype.val)) else none := by
  have e : (xs.map Subtype.val).length = xs.length := List.length_map ..
  rw [hx, hb] at e hn
  rw [hx, hb]
  unfold findL
  rw [scan_none (low s) ws 0 0 0 hw hn, Nat.zero_add, e]
theorem find_stop {b s : List UInt8} {ws : List (List UInt8)} (hb : meantL b ws 0 = meantL (low s) ws 0) (hw : ∀ w ∈ ws, w ≠ []) {pre : List Pl} (hx : pre.map Subtype.val <+: meantL b ws 0) (hn : lastW pre = true) :
    findL (low s) ws = some (lastP 0 (pre.map Subtype.val)) := by
  unfold lastW at hn
  rw [Bool.and_eq_true] at hn
  obtain ⟨h1, h2⟩ := hn
  obtain ⟨q, hq⟩ := hx
  cases hl : (pre.map Subtype.val).getLast? with
  | none => rw [hl] at h2; cases h2
  | some y =>
    rw [hl] at h2
    have hy : y.2 = true := h2
    obtain ⟨ys, e⟩ := List.getLast?_eq_some_iff.1 hl
    rw [e, List.dropLast_concat] at h1
    have hlp : lastP 0 (pre.map Subtype.val) = y.1 := by simp only [lastP, hl]; rfl
    rw [hlp]
    unfold findL
    refine scan_some (low s) ws 0 0 0 ys q y.1 hw h1 ?_
    rw [← hb, ← hq, e, List.append_assoc, ← hy]; rfl
theorem lastW_snoc (pre : List Pl) (x : Pl) : lastW (pre ++ [x]) = (noneW (pre.map Subtype.val) && x.1.2) := by simp [lastW]

theorem meant_stops (n : Nat) (hn : 1 ≤ n) (Bl Bw g N L m : Nat) (b : List UInt8) (ws : List (List UInt8)) (hm : ws.length = m) (hm2 : m ≤ 100) (w : World) (hBl : w.cell? ⟨Bl, 0, none⟩ = some (.slice (some ⟨L, 0, none⟩) m m)) (hBw : w.cell? ⟨Bw, 0, none⟩ = some (.string ⟨b.toArray⟩)) (hw1 : g + 2 ≤ Bw) (hw2 : Bw < N) (hL : ListAt L ws w) (hLg : L < g) :
    SeqStopsK Fence.wide n Tryz.prog 83 #[.pointer (some ⟨Bl, 0, none⟩), .pointer (some ⟨Bw, 0, none⟩)] plV (Keeps2 g N) (fun xs : List Pl => xs.map Subtype.val = meantL b ws 0) (fun pre : List Pl => pre.map Subtype.val <+: meantL b ws 0) (meantL b ws 0).length w := fun l J Jx W hW hJ _ hY h0 =>
  meant_in Fence.wide rfl n hn l Bl Bw g N L m b ws hm hm2 J Jx W hJ hY ((hW.cell (p := ⟨Bl, 0, none⟩) (wcell_lt hBl)).trans hBl) ((hW.cell (p := ⟨Bw, 0, none⟩) (wcell_lt hBw)).trans hBw) hw1 hw2 (hL.next hW) hLg h0

set_option maxHeartbeats 2000000 in
theorem find_in (s : List UInt8) (ws : List (List UInt8)) (L m : Nat) (w : World) (hs : s.length ≤ 1000) (hm : ws.length = m) (hm2 : m ≤ 100) (hw0 : ∀ p ∈ ws, p ≠ []) (hw1 : ∀ p ∈ ws, ascii p) (hL : ListAt L ws w) (hT : U8At w) (n : Nat) (hn : n = 5) (v e0 : Int)
    (HV : Hid ((resN (findL (low s) ws) 0 : Int) = v ∧ (resE (findL (low s) ws) : Int) = e0)) :
    CallsIn Fence.wide n Tryz.prog 44 #[.string ⟨s.toArray⟩, .slice (some ⟨L, 0, none⟩) m m] w fun e w' => e = .returned (.tuple #[.int .i64 v, .int .i64 e0]) ∧ Below w.heap.size w w' := by
  have h1 : 1 ≤ n := by omega
  have HW0 := Lib.hid hw0
  have HL := Lib.hid hL
  have HM := Lib.hid hm
  have HT := Lib.hid hT
  have MM := Lib.hid (map_meant s ws hw1)
  have hLw := hL.lt
  clear hw0 hw1 hL hm hT
  refine callsIn_of_wp_marks Tryz.func44 rfl trivial ?_ rfl
  simp only [Tryz.ntmps44, List.size_toArray, List.length_cons, List.length_nil, Nat.reduceAdd, Nat.reduceSub, Array.replicate_succ, Array.replicate_zero, List.push_toArray, List.append_toArray, List.nil_append, List.cons_append]
  gi_wp2
  refine wscope_in ?_
  gi_wp2
  refine wpIn_label ?_
  obtain ⟨b, hb⟩ : ∃ b, Lib.mapD smallZ s = b := ⟨_, rfl⟩
  have ME : Hid (∀ W : World, U8At W → Calls Tryz.prog 58 #[.string ⟨s.toArray⟩, .slice (some ⟨L, 0, none⟩) m m] W (Meant b (.slice (some ⟨L, 0, none⟩) m m) W)) := Lib.hid fun W h => hb ▸ meant_any s L m W hs h
  rw [hb] at MM
  clear hb
  obtain ⟨W0, hW0⟩ : ∃ W0, (w.alloc (.cells #[.int .i64 0] 3)).alloc (.cells #[.int .i64 0] 3) = W0 := ⟨_, rfl⟩
  have hsz : W0.heap.size = w.heap.size + 2 := by rw [← hW0]; simp
  have hB0 : Below w.heap.size w W0 := by rw [← hW0]; exact ((Below.refl _ w).alloc (Nat.le_refl _) _).alloc (by simp) _
  have hT0 : TwoI w.heap.size 0 0 W0 := by
    rw [← hW0]
    refine ⟨(Go.Boxed.new w _ _).alloc _, ?_⟩
    have := Go.Boxed.new (w.alloc (.cells #[.int .i64 0] 3)) 3 (.int .i64 0)
    rwa [World.size_alloc] at this
  try simp only [hW0]
  gi_wp2_with (refine ⟨trivial, ?_⟩; gi_at_call 58; refine (callsIn_wide.2 (ME.out _ (HT.out.next hB0))).mono ?_; rintro e w1 ⟨Bl, Bw, rfl, bl1, bw1, bl2, bw2, k1⟩)
  have T0 := Lib.hid (hT0.next k1)
  have B1 := Lib.hid (hB0.trans (k1.mono hB0.size))
  have L1 := Lib.hid ((HL.out.next hB0).next k1)
  have bwl := wcell_lt bw2
  have bll := wcell_lt bl2
  have hsz1 := k1.size
  rw [hsz] at bl1 bw1 hsz1
  clear hT0 hB0 hW0 hsz k1 ME HT
  refine wpIn_rangeFunc_ownF rfl h1 (gf := 83) (lb := #[.pointer (some ⟨Bl, 0, none⟩), .pointer (some ⟨Bw, 0, none⟩)]) rfl trivial (enters_of Tryz.func83 (by kernel_rfl) rfl)
    (meant_stops (n - 1) (by omega) Bl Bw w.heap.size w1.heap.size L m b ws HM.out hm2 w1 bl2 bw2 bw1 bwl L1.out hLw) Keeps2.trans (keeps2_b (by omega) (Nat.le_refl _)) (Below.refl _ _) (fun _ => rfl)
    (fun pre W => (noneW (pre.map Subtype.val) = true ∧ TwoI w.heap.size (lastP 0 (pre.map Subtype.val)) (pre.length : Nat) W) ∧ Below w.heap.size w W)
    (fun c pre W => (c = .exit 0 ∧ lastW pre = true ∧ TwoI w.heap.size (lastP 0 (pre.map Subtype.val)) 1 W) ∧ Below w.heap.size w W)
    ?hI ?hIx ⟨⟨rfl, T0.out⟩, B1.out⟩
    (fun x => { tmps := #[.string ⟨s.toArray⟩, .slice (some ⟨L, 0, none⟩) m m, undef, undef, .int .i64 0, .int .i64 0, .pointer (some ⟨w.heap.size, 0, none⟩), .pointer (some ⟨w.heap.size + 1, 0, none⟩), .int .i64 x.1.1, .bool x.1.2, .string ⟨s.toArray⟩, .slice (some ⟨L, 0, none⟩) m m,
      .func (.func 83) #[] #[.pointer (some ⟨Bl, 0, none⟩), .pointer (some ⟨Bw, 0, none⟩)], .int .i64 x.1.1, .bool x.1.2, undef, undef, undef, undef, undef, undef, undef, undef], defers := [] }) ?assign ?body ?done ?stop
  case hI =>
    exact OwnFrom.and (OwnFrom.and (ownFrom_pure _ _) (twoI_own _ _ _ _)) (ownFrom_below (by omega) (by omega))
  case hIx =>
    intro c
    exact OwnFrom.and (OwnFrom.and (ownFrom_pure _ _) (OwnFrom.and (ownFrom_pure _ _) (twoI_own _ _ _ (fun _ => 1)))) (ownFrom_below (by omega) (by omega))
  case assign =>
    intro l x W K hK
    simp only [plV]
    gi_wp2
    exact hK
  case body =>
    rintro l pre x W ⟨⟨hok, hT⟩, hB⟩ hlen
    have hln := meantL_len b ws 0
    rw [HM.out] at hln
    have HO := Lib.hid hok
    have HB := Lib.hid hB
    have hx2 := x.2
    obtain ⟨f0, hf0⟩ : ∃ f0 : Nat, lastP 0 (pre.map Subtype.val) = f0 := ⟨_, rfl⟩
    rw [hf0] at hT
    obtain ⟨k0, hk0⟩ : ∃ k0 : Nat, pre.length = k0 := ⟨_, rfl⟩
    rw [hk0] at hT hlen
    have HK := Lib.hid hk0
    have T1 := Lib.hid hT
    have hx := hT.x.cell
    have hfx := hT.x.frozen
    have hsx := hT.x.lt
    have hy := hT.y.cell
    have hfy := hT.y.frozen
    have hsy := hT.y.lt
    have e : Hid ((pre ++ [x]).map Subtype.val = pre.map Subtype.val ++ [x.1]) := Lib.hid (by simp)
    have el : Hid ((pre ++ [x]).length = k0 + 1) := Lib.hid (by rw [List.length_append, HK.out]; rfl)
    have wd := lastW_snoc pre x
    clear hok hB hT hf0 hk0
    obtain ⟨⟨p, z⟩, hp⟩ := x
    have WD := Lib.hid wd
    clear wd
    have hp' : p < 1000000 := hp
    cases z with
    | true =>
      gi_wp2
      refine ⟨(KeepsOthers.setCell _ _ _).trans (KeepsOthers.setCell _ _ _), ⟨rfl, ?_, ?_⟩, ?_⟩
      · rw [WD.out, HO.out]; rfl
      · rw [e.out, lastP_snoc]; exact (T1.out.set _).set2 _
      · exact (HB.out.setCell (p := ⟨w.heap.size, 0, none⟩) (Nat.le_refl _) _).setCell (p := ⟨w.heap.size + 1, 0, none⟩) (by show w.heap.size ≤ w.heap.size + 1; omega) _
    | false =>
      gi_wp2
      refine ⟨(KeepsOthers.setCell _ _ _).trans (KeepsOthers.setCell _ _ _), (keeps2_one _ _).trans (keeps2_two _ _), ?_⟩
      refine ⟨⟨by rw [e.out, noneW_snoc, HO.out]; rfl, ?_⟩, ?_⟩
      · rw [e.out, lastP_snoc, el.out, Int.natCast_add]; exact (T1.out.set _).set2 _
      · exact (HB.out.setCell (p := ⟨w.heap.size, 0, none⟩) (Nat.le_refl _) _).setCell (p := ⟨w.heap.size + 1, 0, none⟩) (by show w.heap.size ≤ w.heap.size + 1; omega) _
  case done =>
    rintro D xs W hD hS ⟨⟨hok, hT⟩, hB⟩ hK
    have FD := Lib.hid (find_done MM.out HW0.out hS hok)
    have hx := hT.x.cell
    have hy := hT.y.cell
    have hln := meantL_len b ws 0
    rw [← hS, HM.out, List.length_map] at hln
    obtain ⟨f0, hf0⟩ : ∃ f0 : Nat, lastP 0 (xs.map Subtype.val) = f0 := ⟨_, rfl⟩
    obtain ⟨k0, hk0⟩ : ∃ k0 : Nat, xs.length = k0 := ⟨_, rfl⟩
    rw [hf0] at FD hx
    rw [hk0] at FD hy hln
    clear hok hT hS hf0 hk0
    by_cases h : k0 = 1
    · have HE : Hid (v = (f0 : Int) ∧ e0 = 0) := Lib.hid (by
        rw [FD.out, if_pos h] at HV
        exact ⟨HV.out.1.symm, HV.out.2.symm⟩)
      subst h
      gi_wp2
      refine ⟨by simp, .inl ⟨_, _, rfl, run_takeDeferred hK, ?_⟩⟩
      refine ⟨_, results_tmp2 rfl _ _ _, ?_⟩
      rw [HE.out.1, HE.out.2]
      exact ⟨rfl, hB.trans (belowK_b (w := w) (Nat.le_refl _) W D _ _ (by omega) hK rfl rfl)⟩
    · have HE : Hid (v = 0 ∧ e0 = 13) := Lib.hid (by
        rw [FD.out, if_neg h] at HV
        exact ⟨HV.out.1.symm, HV.out.2.symm⟩)
      have h' : ((k0 : Int) == 1) = false := by simp; omega
      clear h
      gi_wp2
      refine ⟨by simp, .inl ⟨_, _, rfl, run_takeDeferred hK, ?_⟩⟩
      refine ⟨_, results_tmp2 rfl _ _ _, ?_⟩
      rw [HE.out.1, HE.out.2]
      exact ⟨rfl, hB.trans (belowK_b (w := w) (Nat.le_refl _) W D _ _ (by omega) hK rfl rfl)⟩
  case stop =>
    rintro D c pre W hD hSp ⟨⟨rfl, hok, hT⟩, hB⟩ hK
    have FS := Lib.hid (find_stop MM.out HW0.out hSp hok)
    have hx := hT.x.cell
    have hy := hT.y.cell
    obtain ⟨f0, hf0⟩ : ∃ f0 : Nat, lastP 0 (pre.map Subtype.val) = f0 := ⟨_, rfl⟩
    rw [hf0] at FS hx
    have HE : Hid (v = (f0 : Int) ∧ e0 = 0) := Lib.hid (by
      rw [FS.out] at HV
      exact ⟨HV.out.1.symm, HV.out.2.symm⟩)
    clear hok hT hSp hf0
    gi_wp2
    refine ⟨by simp, .inl ⟨_, _, rfl, run_takeDeferred hK, ?_⟩⟩
    refine ⟨_, results_tmp2 rfl _ _ _, ?_⟩
    rw [HE.out.1, HE.out.2]
    exact ⟨rfl, hB.trans (belowK_b (w := w) (Nat.le_refl _) W D _ _ (by omega) hK rfl rfl)⟩

/-- find, at a list that lies in memory. -/
theorem find_is (s : List UInt8) (ws : List (List UInt8)) (L m : Nat) (v e0 : Int) (w : World) (hs : s.length ≤ 1000) (hm : ws.length = m) (hm2 : m ≤ 100) (hw0 : ∀ p ∈ ws, p ≠ []) (hw1 : ∀ p ∈ ws, ascii p) (hL : ListAt L ws w) (hT : U8At w)
    (HV : Hid ((resN (findL (low s) ws) 0 : Int) = v ∧ (resE (findL (low s) ws) : Int) = e0)) :
    Calls Tryz.prog 44 #[.string ⟨s.toArray⟩, .slice (some ⟨L, 0, none⟩) m m] w fun e w' => e = .returned (.tuple #[.int .i64 v, .int .i64 e0]) ∧ Below w.heap.size w w' :=
  callsIn_wide.1 (find_in s ws L m w hs hm hm2 hw0 hw1 hL hT 5 rfl v e0 HV)
end Go.Proofs.YtddoapenhlkamaaGreatDoor
