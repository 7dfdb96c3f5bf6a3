/- slices.All over eras: what it hands to whatever loop it is ranged over by. -/
import Derived.Test.YtjpppffgebecdaaGreatDoorZnE
import Derived.Test.YtjpppffgebecdaaGreatDoorRgK
import Derived.LoopNIn
import Derived.LoopIn
import Derived.WalkMore
namespace Go.Proofs.YtjpppffgebecdaaGreatDoor
open Go Go.RowKit
attribute [local go_sem] Oper.semAt_some

def encZ (x : Nat × EV) : Array Value := #[.int .i64 (x.1 : Int), evV x.2]
def okZ (es : List EV) (pre : List (Nat × EV)) (x : Nat × EV) : Prop := x.1 = pre.length ∧ es[pre.length]? = some x.2
/-- Eras that lie below n0. -/
def EsAt (n0 : Nat) (A : Option Addr) (es : List EV) (W : World) : Prop := ∀ i e, es[i]? = some e → ∃ L off, A = some ⟨L, off, none⟩ ∧ L < n0 ∧ ∀ j v, (cE e)[j]? = some v → W.cell? ⟨L, off + i * 12 + j, none⟩ = some v
theorem EsAt.below {n0 : Nat} {A : Option Addr} {es : List EV} {W W' : World} (h : EsAt n0 A es W) (k : Below n0 W W') : EsAt n0 A es W' := fun i e he => by
  obtain ⟨L, off, q, hl, hc⟩ := h i e he
  exact ⟨L, off, q, hl, fun j v hv => (k.cell (p := ⟨L, off + i * 12 + j, none⟩) hl).trans (hc j v hv)⟩
theorem EsAt.mono {n0 n1 : Nat} {A : Option Addr} {es : List EV} {W : World} (h : EsAt n0 A es W) (k : n0 ≤ n1) : EsAt n1 A es W := fun i e he => by
  obtain ⟨L, off, q, hl, hc⟩ := h i e he
  exact ⟨L, off, q, by omega, hc⟩
theorem EsAt.of {A : Option Addr} {es : List EV} {w : World} (h : RowsAt 12 cE A es w) : EsAt w.heap.size A es w := fun i e he => by
  obtain ⟨L, off, q, hl, hc⟩ := h i e he
  exact ⟨L, off, q, hl, fun j v hv => hc j v (by have := (Array.getElem?_eq_some_iff.1 hv).1; simpa [cE] using this) hv⟩
theorem EsAt.cells {n0 : Nat} {A : Option Addr} {es : List EV} {w : World} {i : Nat} {e : EV} (h : EsAt n0 A es w) (he : es[i]? = some e) : ∃ L off, A = some ⟨L, off, none⟩ ∧ L < n0 ∧
    (w.cell? ⟨L, off + i * 12, none⟩ = some (.int .i64 e.of) ∧ w.cell? ⟨L, off + i * 12 + 1, none⟩ = some (.string ⟨e.rl.toArray⟩) ∧ w.cell? ⟨L, off + i * 12 + 2, none⟩ = some (.int .i64 e.sv) ∧ w.cell? ⟨L, off + i * 12 + 3, none⟩ = some (.string ⟨e.fm.toArray⟩) ∧ w.cell? ⟨L, off + i * 12 + 4, none⟩ = some (.bool e.en) ∧ w.cell? ⟨L, off + i * 12 + 5, none⟩ = some (.int .i64 e.uy) ∧ w.cell? ⟨L, off + i * 12 + 6, none⟩ = some (.int .i64 e.um) ∧ w.cell? ⟨L, off + i * 12 + 7, none⟩ = some (.int .i64 e.dk) ∧ w.cell? ⟨L, off + i * 12 + 8, none⟩ = some (.int .i64 e.dw) ∧ w.cell? ⟨L, off + i * 12 + 9, none⟩ = some (.int .i64 e.dn) ∧ w.cell? ⟨L, off + i * 12 + 10, none⟩ = some (.int .i64 e.sc) ∧ w.cell? ⟨L, off + i * 12 + 11, none⟩ = some (.int .i64 e.ck)) := by
  obtain ⟨L, off, q, hl, hc⟩ := h i e he
  exact ⟨L, off, q, hl, hc 0 _ rfl, hc 1 _ rfl, hc 2 _ rfl, hc 3 _ rfl, hc 4 _ rfl, hc 5 _ rfl, hc 6 _ rfl, hc 7 _ rfl, hc 8 _ rfl, hc 9 _ rfl, hc 10 _ rfl, hc 11 _ rfl⟩
theorem zgrown {W W1 : World} (h : Below W.heap.size W W1) : W.grownBy W1 none := ⟨h.os, h.tape, h.output, h.size, fun i hi _ => h.block i hi⟩

set_option maxRecDepth 20000 in
set_option maxHeartbeats 2000000 in
theorem eras_seq (n : Nat) (hn : 1 ≤ n) (n0 Bs : Nat) (A : Option Addr) (m c : Nat) (es : List EV) (w : World) (hm : es.length = m) (hm1 : m ≤ 4611686018427387904) (hA : EsAt n0 A es w) (hn0 : n0 ≤ w.heap.size) (hs : w.cell? ⟨Bs, 0, none⟩ = some (.slice A m c)) :
    SeqKp n Tryz.prog 109 #[.pointer (some ⟨Bs, 0, none⟩)] encZ (okZ es) n0 (fun _ _ => True) (fun xs : List (Nat × EV) => xs.length = m) (fun _ : List (Nat × EV) => True) w := by
  intro l J Jx W hW hJ hJx hY h0
  have HM := Lib.hid hm
  have HJ := Lib.hid hJ
  have HY := Lib.hid hY
  have H0 := Lib.hid h0
  have AA := Lib.hid (hA.below (hW.mono hn0))
  have bl : W.cell? ⟨Bs, 0, none⟩ = some (.slice A m c) := by rw [hW.cell (p := ⟨Bs, 0, none⟩) (cell_lt hs)]; exact hs
  have N0 : n0 ≤ W.heap.size := Nat.le_trans hn0 hW.size
  clear hm hJ hJx hY h0 hA hs hW hn0
  refine callsIn_of_wp Tryz.func109 rfl trivial ?_ rfl
  simp only [Tryz.ntmps109, List.size_toArray, List.length_cons, List.length_nil, Nat.reduceAdd, Nat.reduceSub, Array.replicate_succ, Array.replicate_zero, List.push_toArray, List.append_toArray, List.nil_append, List.cons_append]
  gi_wp2
  gi_loopw [7] (fun v wr => ∃ (pre : List (Nat × EV)) (i : Nat), v = .int .i64 (i : Int) ∧ i ≤ m ∧ pre.length = i ∧ EsAt n0 A es wr ∧ W.heap.size ≤ wr.heap.size ∧ J pre wr) (fun v _ => m - (intOf v).toNat)
  case atStart => exact ⟨[], 0, rfl, Nat.zero_le _, rfl, AA.out, Nat.le_refl _, H0.out⟩
  case round =>
    obtain ⟨pre, i, rfl, hi, hp, hA, hs, hJ⟩ := hrel
    have HP := Lib.hid hp
    have AR := Lib.hid hA
    have HJP := Lib.hid hJ
    have HS := Lib.hid hs
    clear hp hA hJ hs AA H0 bl
    by_cases hlt : i < m
    · have hlt' : (i : Int) < (m : Int) := by omega
      obtain ⟨e, he⟩ : ∃ e, es[i]? = some e := ⟨_, List.getElem?_eq_getElem (by rw [HM.out]; exact hlt)⟩
      obtain ⟨L, off, rfl, hL, x0, x1, x2, x3, x4, x5, x6, x7, x8, x9, x10, x11⟩ := AR.out.cells he
      have OK : Hid (okZ es pre (i, e)) := Lib.hid ⟨HP.out.symm, by rw [HP.out]; exact he⟩
      have EN : ∀ W1, Below n0 wr W1 → EsAt n0 (some ⟨L, off, none⟩) es W1 := fun W1 k => AR.out.below k
      have HEN := Lib.hid EN
      obtain ⟨fn, tmps, assign, body, hy, hR⟩ := HY.out pre (i, e) (wr.alloc (.cells #[.int .i64 e.of, .string ⟨e.rl.toArray⟩, .int .i64 e.sv, .string ⟨e.fm.toArray⟩, .bool e.en, .int .i64 e.uy, .int .i64 e.um, .int .i64 e.dk, .int .i64 e.dw, .int .i64 e.dn, .int .i64 e.sc, .int .i64 e.ck] 54)) (HJ.out.alloc _ HJP.out) OK.out (by have := HS.out; simp; omega)
      simp only [encZ, evV, cE] at hy
      have hsz : W.heap.size ≤ wr.heap.size := HS.out
      clear he EN
      gi_wp2
      refine hR.mono ?_
      rintro e1 W3 (⟨rfl, hJ3, hk3, -⟩ | ⟨rfl, hJx3⟩)
      · have HJ3 := Lib.hid hJ3
        have HK3 := Lib.hid (show Below n0 wr W3 from ((Below.refl n0 wr).alloc (by omega) _).trans hk3)
        clear hJ3 hk3 hy hR
        gi_wp2
        go_roundw
        case rel => exact ⟨pre ++ [(i, e)], i + 1, rfl, by omega, by rw [List.length_append, HP.out]; rfl, HEN.out _ HK3.out, Nat.le_trans hsz HK3.out.size, HJ3.out⟩
        case measure => simp [intOf]; omega
      · clear hy hR
        gi_wp2
        exact bodyPost_ret (results_none rfl _ _ _) rfl ⟨⟨_, rfl⟩, .inr ⟨_, trivial, hJx3⟩⟩
    · obtain rfl : i = m := by omega
      have hlt' : ¬ (i : Int) < (i : Int) := by omega
      gi_wp2
      go_end0
      exact ⟨⟨_, rfl⟩, .inl ⟨pre, HP.out, HJP.out⟩⟩
end Go.Proofs.YtjpppffgebecdaaGreatDoor
