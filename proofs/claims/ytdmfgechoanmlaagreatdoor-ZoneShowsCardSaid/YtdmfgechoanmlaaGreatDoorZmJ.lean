/- Rules whose times are of another kind: their firings; an era of other offset: plain facts; lists of rules that a call made itself. -/
import Derived.Test.YtdmfgechoanmlaaGreatDoorZmI
import Derived.Test.YtdmfgechoanmlaaGreatDoorZmG
import Derived.Test.YtdmfgechoanmlaaGreatDoorMZS
namespace Go.Proofs.YtdmfgechoanmlaaGreatDoor
open Go Go.RowKit Go.Sort
attribute [local go_sem] Oper.semAt_some

def setK (k : Int) (r : RV) : RV := { r with ck := k }
def setKF (k : Int) (f : FV) : FV := { f with kd := k }
theorem frL_set (k : Int) (r : RV) (F : Int) (n : Nat) : frL (setK k r) F n = (frL r F n).map fun p => (p.1, setKF k p.2) := by
  induction n with
  | zero => rfl
  | succ n ih =>
    by_cases h : frY r (F + n)
    · rw [frL_yes h, frL_yes (r := setK k r) h, ih, List.map_append]; rfl
    · rw [frL_no h, frL_no (r := setK k r) h, ih]
theorem allF_set (k : Int) (a b : Int) : ∀ rs : List RV, allF (rs.map (setK k)) a b = (allF rs a b).map (setKF k)
  | [] => rfl
  | r :: rs => by
    have h : frA (setK k r) a b = (frA r a b).map fun p => (p.1, setKF k p.2) := frL_set k r _ _
    have ih := allF_set k a b rs
    unfold allF at ih ⊢
    rw [List.map_cons, List.flatMap_cons, List.flatMap_cons, List.map_append, ih, h, List.map_map, List.map_map]
    rfl
theorem ins_map {α β : Type} {lt : α → α → Bool} {lt' : β → β → Bool} (g : α → β) (h : ∀ a b, lt' (g a) (g b) = lt a b) (x : α) (l : List α) : (ins lt x l).map g = ins lt' (g x) (l.map g) := by
  induction l with
  | nil => rfl
  | cons y l ih =>
    rw [List.map_cons]
    unfold ins
    rw [h]
    split
    · rfl
    · rw [List.map_cons, ih]
theorem mrg_map {α β : Type} {lt : α → α → Bool} {lt' : β → β → Bool} (g : α → β) (h : ∀ a b, lt' (g a) (g b) = lt a b) (A B : List α) : (mrg lt A B).map g = mrg lt' (A.map g) (B.map g) := by
  induction B generalizing A with
  | nil => rfl
  | cons b B ih => rw [mrg_cons, ih, ins_map g h]; rfl
theorem rowF_set (k : Int) (rs : List RV) : rowF (rs.map (setK k)) = (rowF rs).map (setKF k) := by
  unfold rowF
  rw [allF_set]
  exact (mrg_map (setKF k) (fun a b => by rw [lt_cfF, lt_cfF]; rfl) [] _).symm
theorem apt_set {k : Int} {L : List FV} (h : Apt L) : Apt (L.map (setKF k)) := by
  refine ⟨fun f hf => ?_, ?_⟩
  · obtain ⟨g, hg, rfl⟩ := List.mem_map.1 hf
    exact h.1 g hg
  · exact List.pairwise_map.2 h.2
theorem latP_set {n : Nat} {rs : List RV} {k off t : Int} (hn : rs.length = n) (h : FewS rs) (h1 : -90000 < off) (h2 : off < 90000) (ht : NrT t) : LatP n (rs.map (setK k)) off t :=
  ⟨by rw [List.length_map, hn], by have := h.1.1; omega, fun r hr => by obtain ⟨q, hq, rfl⟩ := List.mem_map.1 hr; exact h.ok q hq, by rw [rowF_set]; exact apt_set h.2.2, h1, h2, ht⟩
theorem lat_std (off t m : Int) : ∀ (L : List FV) (s s' : Int) (o : Option FV), latF (off + m) (t - m) s' o (L.map (setKF 1)) = latF off t s o (L.map (setKF 1))
  | [], _, _, _ => rfl
  | f :: L, s, s', o => by
    have e : (inF (setKF 1 f) (off + m) s' ≤ t - m) = (inF (setKF 1 f) off s ≤ t) := by unfold inF setKF; simp; omega
    rw [List.map_cons, latF, latF]
    simp only [e]
    exact lat_std off t m L _ _ _
theorem lat_uni (off off' t : Int) : ∀ (L : List FV) (s s' : Int) (o : Option FV), latF off' t s' o (L.map (setKF 2)) = latF off t s o (L.map (setKF 2))
  | [], _, _, _ => rfl
  | f :: L, s, s', o => by
    have e : (inF (setKF 2 f) off' s' ≤ t) = (inF (setKF 2 f) off s ≤ t) := by unfold inF setKF; simp
    rw [List.map_cons, latF, latF]
    simp only [e]
    exact lat_uni off off' t L _ _ _
theorem lat_mem (off t : Int) : ∀ (L : List FV) (s : Int) (o : Option FV) (f : FV), latF off t s o L = some f → f ∈ L ∨ o = some f
  | [], _, _, _, h => .inr h
  | g :: L, s, o, f, h => by
    rcases lat_mem off t L _ _ f h with h | h
    · exact .inl (List.mem_cons_of_mem _ h)
    · split at h
      · injection h with h; subst h; exact .inl (List.mem_cons_self ..)
      · exact .inr h
theorem svO_bd {L : List FV} (h : Apt L) (off t : Int) : -90000 < svO (latF off t 0 none L) ∧ svO (latF off t 0 none L) < 90000 := by
  cases hl : latF off t 0 none L with
  | none => exact ⟨by decide, by decide⟩
  | some f =>
    rcases lat_mem off t L _ _ f hl with h1 | h1
    · exact h.1 f h1
    · cases h1

theorem near_is (t : Int) (v : Bool) (w : World) (hv : Hid ((v = true ∧ NrT t) ∨ (v = false ∧ ¬ NrT t))) :
    Calls Tryz.prog 14 #[.int .i64 t] w fun e w' => e = .returned (.bool v) ∧ Below w.heap.size w w' := by
  have NO : Hid (¬ NrT t → false = v) := Lib.hid fun h => by
    rcases hv.out with ⟨-, g⟩ | ⟨g, -⟩
    · exact absurd g h
    · exact g.symm
  have YES : Hid (NrT t → true = v) := Lib.hid fun h => by
    rcases hv.out with ⟨g, -⟩ | ⟨-, g⟩
    · exact g.symm
    · exact absurd h g
  clear hv
  by_cases h1 : -2366841600 < t
  · by_cases h2 : t < 3944678400
    · have R := Lib.hid (YES.out ⟨h1, h2⟩)
      go_enter Tryz.func14, Tryz.ntmps14
      repeat (first | go_values | go_skip | go_guarded | go_step | go_upon | go_back)
      go_ret
      exact ⟨retb2 R.out, Below.refl _ w⟩
    · have R := Lib.hid (NO.out fun h => h2 h.2)
      go_enter Tryz.func14, Tryz.ntmps14
      repeat (first | go_values | go_skip | go_guarded | go_step | go_upon | go_back)
      go_ret
      exact ⟨retb2 R.out, Below.refl _ w⟩
  · have R := Lib.hid (NO.out fun h => h1 h.1)
    go_enter Tryz.func14, Tryz.ntmps14
    repeat (first | go_values | go_skip | go_guarded | go_step | go_upon | go_back)
    go_ret
    exact ⟨retb2 R.out, Below.refl _ w⟩

def cRl (r : RV) : List Value := (cR r).toList
def rv0 : RV := ⟨[], 0, 0, 0, 0, 0, 0, 0, 0, 0, []⟩
theorem cRl_len (r : RV) : (cRl r).length = 11 := rfl
theorem cRl_one (r : RV) : ∀ u ∈ cRl r, u.oneCell' = true := by intro u hu; simp [cRl, cR] at hu; rcases hu with rfl | rfl | rfl | rfl | rfl | rfl | rfl | rfl | rfl | rfl | rfl <;> rfl
theorem rl_info : (Tryz.prog.info? 112).map (fun i => (i.zero, i.size, i.bytes)) = some (some (.agg (cR rv0)), 11, 104) := by kernel_rfl
/-- Two lists of rules, of the call's own: the one's block is not the other's. -/
structure TwoL (b : Nat) (v1 v2 : Value) (l1 l2 : List RV) (W : World) : Prop where
  o1 : W.ownsRow b 112 11 v1 l1.length (fcl cRl l1)
  o2 : W.ownsRow b 112 11 v2 l2.length (fcl cRl l2)
  ap : v1.ownBlock = none ∨ v1.ownBlock ≠ v2.ownBlock
theorem rown_form {W : World} {b n : Nat} {v : Value} {xs : List Value} (h : W.ownsRow b 112 11 v n xs) : ∃ A c, v = .slice A n c := by
  rcases h.2 with ⟨rfl, rfl⟩ | ⟨g, c, cur, e, -⟩
  · exact ⟨none, 0, rfl⟩
  · exact ⟨_, c, e⟩
theorem rown_rows {W : World} {b n c : Nat} {A : Option Addr} {l : List RV} (h : W.ownsRow b 112 11 (.slice A n c) n (fcl cRl l)) (hn : l.length = n) : RowsAt 11 cR A l W := by
  rcases h.2 with ⟨h0, h1⟩ | ⟨g', cap, cur, e1, -, hb, hn, -, -, hc⟩
  · intro i x hx
    have := (List.getElem?_eq_some_iff.1 hx).1
    omega
  · cases e1
    refine fun i x hx => ⟨g', 0, rfl, (Array.getElem?_eq_some_iff.1 hb).1, fun j v hj hv => ?_⟩
    have := fcl_at cRl_len hx hj
    rw [← hc, List.getElem?_take] at this
    have hv' : (cRl x)[j]? = some v := by simpa [cRl] using hv
    rw [hv'] at this
    split at this
    · have hcl := cell_of_row W g' (i * 11 + j) _ _ _ hb
      rw [Nat.zero_add, hcl, ← this]; simp
    · cases this
theorem TwoL.next {b : Nat} {v1 v2 : Value} {l1 l2 : List RV} {W W' : World} (h : TwoL b v1 v2 l1 l2 W) (k : Below W.heap.size W W') : TwoL b v1 v2 l1 l2 W' :=
  ⟨h.o1.kept (grown_of_bel k none) (by cases v1.ownBlock <;> simp), h.o2.kept (grown_of_bel k none) (by cases v2.ownBlock <;> simp), h.ap⟩
theorem TwoL.swap {b : Nat} {v1 v2 : Value} {l1 l2 : List RV} {W : World} (h : TwoL b v1 v2 l1 l2 W) : TwoL b v2 v1 l2 l1 W := ⟨h.o2, h.o1, by
  rcases h.ap with h1 | h1
  · by_cases e : v2.ownBlock = none
    · exact .inl e
    · exact .inr fun e' => e (by rw [e', h1])
  · exact .inr fun e => h1 e.symm⟩
/-- A store into a block that is no list of these. -/
theorem TwoL.other {b k : Nat} {v1 v2 : Value} {l1 l2 : List RV} {W W' : World} (h : TwoL b v1 v2 l1 l2 W) (hg : W.grownBy W' (some k)) (hk : v1.ownBlock ≠ some k ∧ v2.ownBlock ≠ some k) : TwoL b v1 v2 l1 l2 W' :=
  ⟨h.o1.kept hg (.inr hk.1), h.o2.kept hg (.inr hk.2), h.ap⟩
theorem own_lt' {W : World} {b n : Nat} {e : TypeId} {v : Value} {xs : List Value} (h : W.ownsRow b e 11 v n xs) : ∀ k, v.ownBlock = some k → b ≤ k ∧ k < W.heap.size := fun k hk => h.lt k hk
/-- One rule behind the first list. -/
theorem wpList_rlpush {w : World} {ops : Array Oper} {rest : List Oper} {o : Oper} {a : Act} {Q : Exit → Act → World → Prop} (hgd : o.guard = none) (s x : Operand)
    (ho : o.op = .call { callee := .builtin .append, args := #[s, x], argTypes := #[80, 80] }) {b : Nat} {v1 v2 : Value} {l1 l2 : List RV} (X : TwoL b v1 v2 l1 l2 w)
    (hs : a.eval s = v1) (ad : Addr) (r : RV) (hx : a.eval x = .slice (some ad) 1 1) (hb : ∀ j u, (cRl r)[j]? = some u → w.cell? (ad.add j) = some u) (hl : l1.length ≤ 100) (hbase : b ≤ w.heap.size)
    (h : ∀ v' w', TwoL b v' v2 (l1 ++ [r]) l2 w' → w.grownBy w' v1.ownBlock → (v'.ownBlock = v1.ownBlock ∨ v'.ownBlock = some w.heap.size) → wpList Tryz.prog ops Q rest (a.put o.dst v') w') : wpList Tryz.prog ops Q (o :: rest) a w := by
  obtain ⟨i0, hi0, hz0, hz1, hz2⟩ := info_parts rl_info
  refine wpList_append_own_at _ hgd s x _ ho b 112 i0 _ 11 104 Tryz.underlying80 hi0 hz0 hz1 hz2 rfl (by omega) v1 l1.length (fcl cRl l1) hs X.o1 ad 1 1 (cRl r) hx rfl hb (cRl_one r) (by simp only [maxLen]; omega) (by omega) hbase ?_
  intro v' w' hown hg _ hw
  refine h v' w' ⟨by rw [List.length_append, fcl_app]; simpa [fcl] using hown, X.o2.kept hg ?_, ?_⟩ hg hw
  · rcases X.swap.ap with h1 | h1
    · exact .inl h1
    · exact .inr h1
  · rcases hw with h1 | h1
    · rw [h1]; exact X.ap
    · refine .inr fun e => ?_
      have := (own_lt' X.o2 _ (e.symm.trans h1)).2
      omega
theorem rl_new (W : World) (p : RV) (t : TypeId) : ∀ j u, (cRl p)[j]? = some u → (W.alloc (.cells (cR p) t)).cell? ((⟨W.heap.size, 0, none⟩ : Addr).add j) = some u := by
  intro j u hu
  have h := heap_alloc_new W (.cells (cR p) t)
  have := cell_of_row _ W.heap.size j _ _ _ h
  have e : (⟨W.heap.size, 0, none⟩ : Addr).add j = ⟨W.heap.size, j, none⟩ := by cases j <;> simp [Addr.add]
  rw [e, this]
  simpa [cRl] using hu
end Go.Proofs.YtdmfgechoanmlaaGreatDoor
