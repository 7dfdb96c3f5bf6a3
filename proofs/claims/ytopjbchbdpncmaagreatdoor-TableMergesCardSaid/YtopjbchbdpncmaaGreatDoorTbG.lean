/- slices.Values over a row of changes; table.Merge. -/
import Derived.Test.YtopjbchbdpncmaaGreatDoorMYF
import Derived.LoopNIn
import Derived.LoopIn
import Derived.WalkMore
namespace Go.Proofs.YtopjbchbdpncmaaGreatDoor
open Go Go.RowKit Go.Sort Go.Shelf
attribute [local go_sem] Oper.semAt_some

/-- What the iterator over changes reads. -/
structure VcR (Bv : Nat) (A : Option Addr) (m c : Nat) (ss : List CV) (W : World) : Prop where
  bv : W.heap[Bv]? = some (.cells #[.slice A m c] 67 (0, 0))
  ss : RowsAt 4 cC A ss W
theorem VcR.next {Bv : Nat} {A : Option Addr} {m c : Nat} {ss : List CV} {W W' : World} (h : VcR Bv A m c ss W) (k : Below W.heap.size W W') : VcR Bv A m c ss W' := ⟨(k.block _ (Array.getElem?_eq_some_iff.1 h.bv).1).trans h.bv, h.ss.next k⟩
theorem cvals_is (A : Option Addr) (m c : Nat) (w : World) : Calls Tryz.prog 63 #[.slice A m c] w fun e w' => e = .returned (.func (.func 87) #[] #[.pointer (some ⟨w.heap.size, 0, none⟩)]) ∧ w' = w.alloc (.cells #[.slice A m c] 67) := by
  have hmf : ∀ (fn : Fn) (first cap : Array Value) (w : World), (Instr.makeFunc fn first cap).run Tryz.prog w = .ok (.func fn first cap) w := fun _ _ _ _ => rfl
  go_enter Tryz.func63, Tryz.ntmps63
  go_wp2
  go_ret
  exact ⟨rfl, rfl⟩
set_option maxRecDepth 20000 in
set_option maxHeartbeats 2000000 in
theorem cvals_seq (n : Nat) (hn : 1 ≤ n) (T : TypeId → Bool) (n0 : Nat) (Kp : World → World → Prop) (Bv : Nat) (A : Option Addr) (m c : Nat) (ss : List CV) (w : World) (hm : ss.length = m) (hm1 : m ≤ 1000) (hR : VcR Bv A m c ss w)
    (hK : ∀ X Y, VcR Bv A m c ss X → Below n0 X Y → Kp X Y → VcR Bv A m c ss Y) :
    SeqKs T n Tryz.prog 87 #[.pointer (some ⟨Bv, 0, none⟩)] encC (fun pre x => pre ++ [x] <+: ss) n0 Kp (fun xs => xs = ss) (fun pre => pre <+: ss) w := by
  intro l J Jx W hW hJ hJx hY h0
  have HM := Lib.hid hm
  have HJ := Lib.hid hJ
  have HY := Lib.hid hY
  have H0 := Lib.hid h0
  have HK := Lib.hid hK
  have AA := Lib.hid (hR.next hW)
  have bl := cel1 AA.out.bv
  clear hm hJ hJx hY h0 hR hW hK
  refine callsIn_of_wp Tryz.func87 rfl trivial ?_ rfl
  simp only [Tryz.ntmps87, List.size_toArray, List.length_cons, List.length_nil, Nat.reduceAdd, Nat.reduceSub, Array.replicate_succ, Array.replicate_zero, List.push_toArray, List.append_toArray, List.nil_append, List.cons_append]
  gi_wp2
  gi_loopw [7] (fun v wr => ∃ i : Nat, v = .int .i64 (i : Int) ∧ i ≤ m ∧ VcR Bv A m c ss wr ∧ W.heap.size ≤ wr.heap.size ∧ J (ss.take i) wr) (fun v _ => m - (intOf v).toNat)
  case atStart => exact ⟨0, rfl, Nat.zero_le _, AA.out, Nat.le_refl _, H0.out⟩
  case round =>
    obtain ⟨i, rfl, hi, hA, hs, hJ⟩ := hrel
    have AR := Lib.hid hA
    have HJP := Lib.hid hJ
    have HS := Lib.hid hs
    clear hA hJ hs AA H0 bl
    by_cases hlt : i < m
    · have hlt' : (i : Int) < (m : Int) := by omega
      obtain ⟨e, he⟩ : ∃ e, ss[i]? = some e := ⟨_, List.getElem?_eq_getElem (by rw [HM.out]; exact hlt)⟩
      obtain ⟨L, off, rfl, hL, x0, x1, x2, x3⟩ := cc_cells AR.out.ss he
      have TK : Hid (ss.take (i + 1) = ss.take i ++ [e]) := Lib.hid ((by obtain ⟨h1, h2⟩ := List.getElem?_eq_some_iff.1 he; rw [List.take_succ_eq_append_getElem h1, h2]))
      have OK : Hid (ss.take i ++ [e] <+: ss) := Lib.hid (by rw [← TK.out]; exact List.take_prefix _ _)
      have kal : Below wr.heap.size wr (wr.alloc (.cells #[.int .i64 e.t, .int .i64 e.of, .bool e.ds, .string ⟨e.ab.toArray⟩] 73)) := (Below.refl _ _).alloc (Nat.le_refl _) _
      have AL := Lib.hid (AR.out.next kal)
      obtain ⟨fn, tmps, assign, body, hy, hR⟩ := HY.out _ e (wr.alloc (.cells #[.int .i64 e.t, .int .i64 e.of, .bool e.ds, .string ⟨e.ab.toArray⟩] 73)) (HJ.out.bel HJP.out kal) OK.out (by have := HS.out; simp; omega)
      simp only [encC, cvV] at hy
      have hsz : W.heap.size ≤ wr.heap.size := HS.out
      clear he kal
      gi_wp2
      refine hR.mono ?_
      rintro e1 W3 (⟨rfl, hJ3, hk3, hkp3, -⟩ | ⟨rfl, hJx3, -⟩)
      · have HJ3 := Lib.hid hJ3
        have HK3 := Lib.hid (HK.out _ _ AL.out hk3 hkp3)
        have HS3 := Lib.hid hk3.size
        clear hJ3 hk3 hkp3 hy hR
        gi_wp2
        go_roundw
        case rel => exact ⟨i + 1, rfl, by omega, HK3.out, by have := HS3.out; simp at this; omega, by rw [TK.out]; exact HJ3.out⟩
        case measure => simp [intOf]; omega
      · clear hy hR
        gi_wp2
        exact bodyPost_ret (results_none rfl _ _ _) rfl ⟨⟨_, rfl⟩, .inr ⟨_, OK.out, hJx3⟩⟩
    · obtain rfl : i = m := by omega
      have hlt' : ¬ ((i : Nat) : Int) < (i : Int) := by omega
      have FIN : Hid (J ss wr) := Lib.hid (by have := HJP.out; rwa [List.take_of_length_le (by rw [HM.out]; omega)] at this)
      gi_wp2
      go_end0
      exact ⟨⟨_, rfl⟩, .inl FIN.out⟩
theorem crows_below {n0 : Nat} {A : Option Addr} {ss : List CV} {w w' : World} (h : RowsAt 4 cC A ss w) (sl : ∀ x, A = some x → x.block < n0) (k : Below n0 w w') : RowsAt 4 cC A ss w' := fun i x hx => by
  obtain ⟨L, off, e, hl, hc⟩ := h i x hx
  exact ⟨L, off, e, Nat.lt_of_lt_of_le hl k.size, fun j v hj hv => (k.cell (p := ⟨L, off + i * 4 + j, none⟩) (sl ⟨L, off, none⟩ e)).trans (hc j v hj hv)⟩
theorem merged_seq (A : Option Addr) (n c : Nat) (xs : List CV) (w0 w1 w2 : World) (hA : RowsAt 4 cC A xs w0) (hn : xs.length = n) (h1 : n ≤ 1000)
    (e1 : w1 = w0.alloc (.cells #[.slice A n c] 67)) (e2 : w2 = w1.alloc (.cells #[.func (.func 87) #[] #[.pointer (some ⟨w0.heap.size, 0, none⟩)]] 77)) :
    ItC 13 81 #[.pointer (some ⟨w1.heap.size, 0, none⟩)] (mrgC none xs) w2.heap.size w2 := by
  have k1 : Below w0.heap.size w0 w1 := by rw [e1]; exact (Below.refl _ _).alloc (Nat.le_refl _) _
  have k12 : Below w1.heap.size w1 w2 := by rw [e2]; exact (Below.refl _ _).alloc (Nat.le_refl _) _
  have k2 := bthen k1 k12
  have s1 : w1.heap.size = w0.heap.size + 1 := by rw [e1]; simp
  have s2 : w2.heap.size = w0.heap.size + 2 := by rw [e2]; simp [s1]
  have b0 : w2.heap[w0.heap.size]? = some (.cells #[.slice A n c] 67 (0, 0)) := (k12.block _ (by omega)).trans (by rw [e1]; exact World.alloc_heap_new w0 _)
  have b1 : w2.heap[w1.heap.size]? = some (.cells #[.func (.func 87) #[] #[.pointer (some ⟨w0.heap.size, 0, none⟩)]] 77 (0, 0)) := by rw [e2]; exact World.alloc_heap_new w1 _
  have R2 := hA.next k2
  have sl : ∀ i x, xs[i]? = some x → ∀ y, A = some y → y.block < w2.heap.size := fun i x hx y hy => by
    obtain ⟨L, off, e, hl, -⟩ := R2 i x hx
    rw [hy] at e; cases e; exact hl
  have IT : ItC 12 87 #[.pointer (some ⟨w0.heap.size, 0, none⟩)] xs w2.heap.size w2 := by
    refine ⟨Nat.le_refl _, enters_of Tryz.func87 (by kernel_rfl) rfl, fun m w' k' _ => ?_⟩
    refine cvals_seq 12 (by omega) tC w2.heap.size (KpC m) w0.heap.size A n c xs w' hn h1 ⟨(k'.block _ (by omega)).trans b0, R2.next k'⟩ fun X Y hX hB _ => ⟨(hB.block _ (by omega)).trans hX.bv, fun i x hx => ?_⟩
    obtain ⟨L, off, e, hl, hc⟩ := hX.ss i x hx
    exact ⟨L, off, e, Nat.lt_of_lt_of_le hl hB.size, fun j v hj hv => (hB.cell (p := ⟨L, off + i * 4 + j, none⟩) (sl i x hx ⟨L, off, none⟩ e)).trans (hc j v hj hv)⟩
  exact distinct_seq 13 (by omega) _ _ xs w2.heap.size w1.heap.size w2 IT b1 (by omega)
/-- What Merge answers. -/
def MrgC (xs : List CV) (w : World) (e : Ending) (w' : World) : Prop :=
  (¬ RisC xs ∧ e = .returned (.tuple #[.slice none 0 0, .int .i64 17]) ∧ Below w.heap.size w w') ∨
  (RisC xs ∧ ∃ A c, e = .returned (.tuple #[.slice A (mrgC none xs).length c, .int .i64 0]) ∧ RowsAt 4 cC A (mrgC none xs) w' ∧ Below w.heap.size w w')
theorem cmr_len (xs : List CV) : (mrgC none xs).length ≤ xs.length := (cmr_sub none xs).length_le
set_option maxRecDepth 20000 in
set_option maxHeartbeats 1000000 in
theorem tmerge_is (A : Option Addr) (n c : Nat) (xs : List CV) (w : World) (hA : RowsAt 4 cC A xs w) (hn : xs.length = n) (h1 : n ≤ 1000) :
    Calls Tryz.prog 37 #[.slice A n c] w (MrgC xs w) := by
  have AA := Lib.hid hA
  have HN := Lib.hid hn
  clear hA hn
  go_enter Tryz.func37, Tryz.ntmps37
  repeat (first | go_values | go_skip | go_guarded | go_step | go_upon | go_back)
  go_loopw [4] (fun u wr => ∃ i : Nat, u = .int .i64 ((i + 1 : Nat) : Int) ∧ i ≤ n ∧ (∀ j a b, j < i → xs[j]? = some a → xs[j + 1]? = some b → a.t < b.t) ∧ Below w.heap.size w wr) (fun u _ => n + 1 - (intOf u).toNat)
  case atStart => exact ⟨0, rfl, by omega, fun j a b h => by omega, Below.refl _ _⟩
  case round =>
    obtain ⟨i, rfl, hi, ht, hk⟩ := hrel
    have HK := Lib.hid hk
    have HT := Lib.hid ht
    clear hk ht
    by_cases hlt : i + 1 < n
    · have hlt' : ((i + 1 : Nat) : Int) < (n : Int) := by omega
      have hsub : IntKind.i64.wrap (((i + 1 : Nat) : Int) - 1) = (i : Int) := by rw [IntWalk.i64_in _ (by omega)]; omega
      obtain ⟨x, hx⟩ : ∃ x, xs[i]? = some x := ⟨_, List.getElem?_eq_getElem (by rw [HN.out]; omega)⟩
      obtain ⟨y, hy⟩ : ∃ y, xs[i + 1]? = some y := ⟨_, List.getElem?_eq_getElem (by rw [HN.out]; omega)⟩
      obtain ⟨L, off, rfl, hL, x0, x1, x2, x3⟩ := cc_cells (AA.out.next HK.out) hx
      obtain ⟨L', off', e', hL', y0, y1, y2, y3⟩ := cc_cells (AA.out.next HK.out) hy
      cases e'
      have HX := Lib.hid hx
      have HY := Lib.hid hy
      clear hx hy
      by_cases hle : y.t ≤ x.t
      · have HV : Hid (¬ RisC xs) := Lib.hid fun h => (by have := ris_at h HX.out HY.out (by omega); omega)
        repeat (first | go_values | go_skip | go_guarded | go_step | go_upon | go_back)
        go_region
        all_goals
          repeat (first | go_values | go_skip | go_guarded | go_step | go_upon | go_back)
          exact bodyPost_ret (by simp [results, Tryz.results37, go_sem]) rfl (.inl ⟨HV.out, rfl, HK.out.drew⟩)
      · repeat (first | go_values | go_skip | go_guarded | go_step | go_upon | go_back)
        go_region
        all_goals
          repeat (first | go_values | go_skip | go_guarded | go_step | go_upon | go_back)
          go_roundw
          case rel =>
            refine ⟨i + 1, by simp, by omega, fun j a b hj h2 h3 => ?_, HK.out.drew⟩
            by_cases hji : j = i
            · subst hji
              have e1 := HX.out.symm.trans h2
              have e2 := HY.out.symm.trans h3
              injection e1 with e1
              injection e2 with e2
              rw [← e1, ← e2]; omega
            · exact HT.out j a b (by omega) h2 h3
          case measure => simp [intOf]; omega
    · have hlt' : ¬ ((i + 1 : Nat) : Int) < (n : Int) := by omega
      have HR : Hid (RisC xs) := Lib.hid (ris_of fun j a b h2 h3 => HT.out j a b (by have := (List.getElem?_eq_some_iff.1 h3).1; have := HN.out; omega) h2 h3)
      have hml : (mrgC none xs).length ≤ 1000000 := by have := cmr_len xs; have := HN.out; omega
      repeat (first
        | (go_at_call 63; refine (cvals_is _ _ _ _).mono ?_; rintro r w1 ⟨rfl, hw1⟩; have H1 := Lib.hid hw1; clear hw1; simp only [])
        | (go_at_call 53; refine (distinct_is _ _ _ _).mono ?_; rintro r w2 ⟨rfl, hw2⟩; have IT := Lib.hid (merged_seq A n c xs wr w1 w2 (AA.out.next HK.out) HN.out h1 H1.out hw2); have K2 : Hid (Below w.heap.size w w2) := Lib.hid (by rw [hw2, H1.out]; exact bmk (bmk HK.out _) _); clear hw2; simp only [])
        | (go_at_call 52; refine (collc_is _ _ _ hml _ 13 (by omega) _ IT.out).mono ?_; rintro r w5 ⟨A5, c5, rfl, h5, k5⟩; have O5 := Lib.hid h5; have K5 := Lib.hid k5; clear h5 k5; simp only [])
        | go_values | go_skip | go_guarded | go_step | go_upon | go_back)
      exact bodyPost_ret (by simp [results, Tryz.results37, go_sem]) rfl (.inr ⟨HR.out, A5, c5, rfl, own_c O5.out rfl, bthen K2.out K5.out⟩)
end Go.Proofs.YtopjbchbdpncmaaGreatDoor
