/- The contract of wire.inPieces: the number at the beginning of bytes, in how many pieces it is, or what is wrong; nothing that was in memory changes. -/
import Derived.Test.YtdepbhikkjfcjaaWrP
namespace Go.Proofs.Ytdepbhikkjfcjaa
open Go.RowKit Go.Shelf
attribute [local go_sem] Oper.semAt_some

def allge (l : List UInt8) : Prop := ∀ i, i < l.length → 128 ≤ (l.getD i 0).toNat
theorem allge_snoc {l : List UInt8} {x : UInt8} (h : allge l) (hx : 128 ≤ x.toNat) : allge (l ++ [x]) := fun i hi => by
  rw [List.length_append, List.length_singleton] at hi
  rcases Nat.lt_or_ge i l.length with h1 | h1
  · have := h i h1
    rwa [List.getD_eq_getElem?_getD, List.getElem?_append_left h1, ← List.getD_eq_getElem?_getD]
  · obtain rfl : i = l.length := by omega
    rw [List.getD_eq_getElem?_getD, List.getElem?_append_right h1]
    simpa using hx
theorem done_eq {b : List UInt8} {p : Nat} (h : allge (b.take 10)) (hp : 128 ≤ p) : wrE p (b.take 10).length = rdE b ∧ rdE b ≠ 0 := by
  have hl : (b.take 10).length = min 10 b.length := List.length_take ..
  have hge := rn_ge b (min 10 b.length) (by omega) (fun i hi => by
    have := h i (by rw [hl]; exact hi)
    rwa [List.getD_eq_getElem?_getD, List.getElem?_take_of_lt (by omega), ← List.getD_eq_getElem?_getD] at this)
  rw [hl]
  rcases Nat.lt_or_ge b.length 10 with h1 | h1
  · have h2 : rdE b = 20 := by unfold rdE; have := rn_le b; rw [if_neg (by omega), if_pos (by omega)]
    rw [h2, wrE, if_pos (by omega)]
    exact ⟨rfl, by omega⟩
  · have h2 : rdE b = 12 := by unfold rdE; rw [if_pos (by omega)]
    rw [h2, wrE, if_neg (by omega), if_neg (by omega), if_pos (by omega)]
    exact ⟨rfl, by omega⟩
theorem stop_eq {b q : List UInt8} {y : UInt8} (h : q ++ [y] <+: b.take 10) (hq : allge q) (hy : y.toNat < 128) :
    wrE y.toNat (q.length + 1) = rdE b ∧ (rdE b = 0 → rdV b = vl (q ++ [y]) % 18446744073709551616 ∧ rdN b = q.length + 1) := by
  obtain ⟨r, hr⟩ := h
  have hlen : q.length + 1 ≤ 10 ∧ q.length + 1 ≤ b.length := by
    have := congrArg List.length hr
    rw [List.length_append, List.length_append, List.length_singleton, List.length_take] at this
    omega
  have hb : b = q ++ [y] ++ (r ++ b.drop 10) := by
    rw [← List.append_assoc, hr, List.take_append_drop]
  have hrn : rn b = q.length := by
    refine rn_is b q.length (by omega) (fun i hi => ?_) (fun _ => ?_)
    · have := hq i hi
      rw [hb, List.append_assoc, List.getD_eq_getElem?_getD, List.getElem?_append_left hi, ← List.getD_eq_getElem?_getD]
      exact this
    · rw [hb, List.append_assoc, List.getD_eq_getElem?_getD, List.getElem?_append_right (Nat.le_refl _)]
      simpa using hy
  have hy2 : (b.getD (rn b) 0) = y := by
    rw [hrn, hb, List.append_assoc, List.getD_eq_getElem?_getD, List.getElem?_append_right (Nat.le_refl _)]
    simp
  have ht : b.take (q.length + 1) = q ++ [y] := by
    conv => lhs; rw [hb]
    rw [List.take_left' (by simp)]
  constructor
  · have f1 : ¬ 10 ≤ rn b := by omega
    have f2 : ¬ b.length ≤ rn b := by omega
    have f3 : ¬ (128 ≤ y.toNat ∧ q.length + 1 < 10) := by omega
    by_cases h1 : y.toNat = 0 ∧ 1 < q.length + 1
    · rw [wrE, if_neg f3, if_pos h1, rdE, if_neg f1, if_neg f2, hy2, if_pos ⟨by omega, h1.1⟩]
    · have f4 : ¬ (1 ≤ rn b ∧ (b.getD (rn b) 0).toNat = 0) := fun h => h1 ⟨by rw [← hy2]; exact h.2, by omega⟩
      by_cases h3 : 1 < y.toNat ∧ q.length + 1 = 10
      · rw [wrE, if_neg f3, if_neg h1, if_pos h3, rdE, if_neg f1, if_neg f2, if_neg f4, if_pos ⟨by omega, by rw [hy2]; exact h3.1⟩]
      · rw [wrE, if_neg f3, if_neg h1, if_neg h3, rdE, if_neg f1, if_neg f2, if_neg f4, if_neg (fun h => h3 ⟨by rw [← hy2]; exact h.2, by omega⟩)]
  · intro h0
    have hv := rdV_lt b
    constructor
    · rw [rdV, if_pos h0, hrn, ht] at hv ⊢
      omega
    · rw [rdN, if_pos h0, hrn]
theorem nx_vl (pre : List UInt8) (x : UInt8) : nx (vl pre) pre.length x.toNat = vl (pre ++ [x]) % 18446744073709551616 := by rw [nx, vl_snoc]
theorem vl_small {pre : List UInt8} (h : pre.length ≤ 9) : vl pre % 18446744073709551616 = vl pre ∧ vl pre < 128 ^ pre.length := by
  have h1 := vl_lt pre
  have h2 : 128 ^ pre.length ≤ 128 ^ 9 := Nat.pow_le_pow_right (by omega) h
  exact ⟨Nat.mod_eq_of_lt (by omega), h1⟩

theorem Pb.kept {g x s p B : Nat} {W W' : World} {row : Option Nat} (h : Pb g x s p W) (hg : W.grownBy W' row) (hr : ∀ r, row = some r → B ≤ r ∧ ∃ o : Obj, W.heap[r]? = some o ∧ o.isCells = false) : Pb g x s p W' := by
  have ne : ∀ {j : Nat} {t : TypeId} {v : Value}, Go.Boxed W j t v → some j ≠ row := fun hj e => by
    obtain ⟨_, o, ho, hc⟩ := hr _ e.symm
    rw [show W.heap[_]? = _ from hj] at ho; cases ho; cases hc
  exact ⟨h.x.kept hg (ne h.x), h.s.kept hg (ne h.s), h.f.kept hg (ne h.f), h.p.kept hg (ne h.p)⟩
theorem Pb.setp {g x s p : Nat} {W : World} (h : Pb g x s p W) (v : Nat) : Pb g x s v (W.setCell ⟨g + 3, 0, none⟩ (.int .u8 (v : Int))) :=
  ⟨h.x.other (by omega) _, h.s.other (by omega) _, h.f.other (by omega) _, h.p.set _⟩
theorem Pb.next {g x s p : Nat} {W W1 : World} (h : Pb g x s p W) (k : Below W.heap.size W W1) : Pb g x s p W1 :=
  ⟨(k.block _ h.x.lt).trans h.x, (k.block _ h.s.lt).trans h.s, (k.block _ h.f.lt).trans h.f, (k.block _ h.p.lt).trans h.p⟩
theorem By.byB {n0 : Nat} {w W : World} {a : Option Addr} {l : List UInt8} (h : By w a l) (hn : w.heap.size ≤ n0) (k : Below w.heap.size w W) : ByB n0 W a l := fun j hj => by
  obtain ⟨b, off, e, hlt, hc⟩ := h j hj
  exact ⟨b, off, e, by omega, by rw [k.cell (p := ⟨b, off + j, none⟩) hlt]; exact hc⟩

def Xv (pre : List UInt8) : Nat := vl pre % 18446744073709551616
def Ib (g : Nat) (w : World) (pre : List UInt8) (W : World) : Prop := (allge pre ∧ ∃ p, 128 ≤ p ∧ Pb g (Xv pre) pre.length p W) ∧ Below g w W
def Imb (g : Nat) (w : World) (z : UInt8 × List UInt8) (W : World) : Prop := (allge z.2 ∧ Pb g (Xv z.2) z.2.length z.1.toNat W) ∧ Below g w W
def Ixb (g : Nat) (w : World) (c : Code) (pre : List UInt8) (W : World) : Prop := (∃ (q : List UInt8) (y : UInt8), pre = q ++ [y] ∧ c = .exit 0 ∧ allge q ∧ y.toNat < 128 ∧ Pb g (Xv pre) pre.length y.toNat W) ∧ Below g w W
theorem ib_own {g B : Nat} {w : World} (hg : g ≤ w.heap.size) (hB : g ≤ B) : OwnFrom B (Ib g w) := fun _ X Y row ⟨⟨h1, p, h2, h3⟩, hb⟩ hgr hr => ⟨⟨h1, p, h2, h3.kept hgr hr⟩, ownFrom_below (β := Unit) hg hB () X Y row hb hgr hr⟩
theorem imb_own {g B : Nat} {w : World} (hg : g ≤ w.heap.size) (hB : g ≤ B) : OwnFrom B (Imb g w) := fun _ X Y row ⟨⟨h1, h3⟩, hb⟩ hgr hr => ⟨⟨h1, h3.kept hgr hr⟩, ownFrom_below (β := Unit) hg hB () X Y row hb hgr hr⟩
theorem ixb_own {g B : Nat} {w : World} (hg : g ≤ w.heap.size) (hB : g ≤ B) (c : Code) : OwnFrom B (Ixb g w c) := fun _ X Y row ⟨⟨q, y, h1, h2, h3, h4, h5⟩, hb⟩ hgr hr => ⟨⟨q, y, h1, h2, h3, h4, h5.kept hgr hr⟩, ownFrom_below (β := Unit) hg hB () X Y row hb hgr hr⟩

theorem pscope_in {c : Code} {n : Nat} {Q : Exit → Act → World → Prop} {a : Act} {w : World} (h : c.wpIn Fence.wide n Try.prog (Exit.noGoto Q) a w) : (Code.scope c).wpIn Fence.wide n Try.prog Q a w := wpIn_wide.2 (wp_scope_straight (wpIn_wide.1 h))

set_option maxRecDepth 20000 in
set_option maxHeartbeats 2000000 in
theorem inPieces_in (n : Nat) (hn : n = 5) (a : Option Addr) (c : Nat) (b : List UInt8) (w : World) (hc : b.length ≤ c) (hb : By w a b) (V N E : Nat) (hv : Hid (rdV b = V ∧ rdN b = N ∧ rdE b = E)) :
    CallsIn Fence.wide n Try.prog 37 #[.slice a b.length c] w fun e w' => e = .returned (.tuple #[.int .u64 (V : Int), .int .i64 (N : Int), .int .i64 (E : Int)]) ∧ Below w.heap.size w w' := by
  have h1 : 1 ≤ n := by omega
  have hmf : ∀ (fn : Fn) (first cap : Array Value) (w : World), (Instr.makeFunc fn first cap).run Try.prog w = .ok (.func fn first cap) w := fun _ _ _ _ => rfl
  have HB := Lib.hid hb
  clear hb
  refine callsIn_of_wp_marks Try.func37 rfl trivial ?_ rfl
  simp only [Try.ntmps37, List.size_toArray, List.length_cons, List.length_nil, Nat.reduceAdd, Nat.reduceSub, Array.replicate_succ, Array.replicate_zero, List.push_toArray, List.append_toArray, List.nil_append, List.cons_append]
  gi_wp2
  refine pscope_in ?_
  gi_wp2
  refine wpIn_label ?_
  gi_wp2_with (refine ⟨trivial, ?_⟩; gi_at_call 45; refine (callsIn_wide.2 (mayBe_any a b.length c _)).mono ?_; rintro e w' ⟨rfl, rfl⟩)
  simp only [Nat.add_assoc, Nat.reduceAdd]
  obtain ⟨g, hg⟩ : ∃ g, w.heap.size = g := ⟨_, rfl⟩
  obtain ⟨W4, hW4⟩ : ∃ W4, (((w.alloc (.cells #[.int .u64 0] 52)).alloc (.cells #[.int .i64 0] 3)).alloc (.cells #[.func (.func 44) #[] #[.pointer (some ⟨g, 0, none⟩), .pointer (some ⟨g + 1, 0, none⟩)]] 69)).alloc (.cells #[.int .u8 128] 5) = W4 := ⟨_, rfl⟩
  have hsz4 : W4.heap.size = g + 4 := by rw [← hW4, ← hg]; simp
  have hP4 : Pb g 0 0 128 W4 := by
    rw [← hW4, ← hg]
    refine ⟨(((Go.Boxed.new w _ _).alloc _).alloc _).alloc _, ?_, ?_, ?_⟩
    · have := Go.Boxed.new (w.alloc (.cells #[.int .u64 0] 52)) 3 (.int .i64 0)
      rw [World.size_alloc] at this
      exact (this.alloc _).alloc _
    · have := Go.Boxed.new ((w.alloc (.cells #[.int .u64 0] 52)).alloc (.cells #[.int .i64 0] 3)) 69 (.func (.func 44) #[] #[.pointer (some ⟨w.heap.size, 0, none⟩), .pointer (some ⟨w.heap.size + 1, 0, none⟩)])
      rw [World.size_alloc, World.size_alloc] at this
      exact this.alloc _
    · have := Go.Boxed.new (((w.alloc (.cells #[.int .u64 0] 52)).alloc (.cells #[.int .i64 0] 3)).alloc (.cells #[.func (.func 44) #[] #[.pointer (some ⟨w.heap.size, 0, none⟩), .pointer (some ⟨w.heap.size + 1, 0, none⟩)]] 69)) 5 (.int .u8 128)
      rw [World.size_alloc, World.size_alloc, World.size_alloc] at this
      exact this
  have hB4 : Below g w W4 := by
    rw [← hW4, ← hg]
    exact ((((Below.refl _ w).alloc (Nat.le_refl _) _).alloc (by simp) _).alloc (by simp; omega) _).alloc (by simp; omega) _
  rw [hg]
  rw [hW4]
  obtain ⟨W5, hW5⟩ : ∃ W5, W4.alloc (.cells #[.slice a b.length c] 22) = W5 := ⟨_, rfl⟩
  have hsz5 : W5.heap.size = g + 5 := by rw [← hW5, World.size_alloc, hsz4]
  have hS5 : W5.cell? ⟨g + 4, 0, none⟩ = some (.slice a b.length c) := by
    have := (Go.Boxed.new W4 22 (.slice a b.length c)).cell
    rw [hsz4, hW5] at this
    exact this
  have hk5 : Below W4.heap.size W4 W5 := by rw [← hW5]; exact (Below.refl _ _).alloc (Nat.le_refl _) _
  have hP5 : Pb g 0 0 128 W5 := hP4.next hk5
  have hB5 : Below g w W5 := hB4.trans (hk5.mono (by omega))
  have hbb : ByB g W5 a b := HB.out.byB (by omega) (by rw [hg]; exact hB5)
  rw [hW5]
  clear hW4 hW5 hP4 hB4 hk5
  have HST := Lib.hid (mb_stops (n - 1) (by omega) (g + 4) g a c b hc W5 hS5 (by omega) hbb (by omega))
  clear hS5 hbb
  have hgw : g ≤ w.heap.size := by omega
  have hgW : g ≤ W5.heap.size := by omega
  refine range_mid h1 (gf := 47) (lb := #[.pointer (some ⟨g + 4, 0, none⟩)]) rfl (enters_of Try.func47 (by kernel_rfl) rfl) HST.out hgW (fun _ => rfl)
    (Ib g w) (Imb g w) (Ixb g w) (ib_own hgw hgW) (imb_own hgw hgW) (ixb_own hgw hgW) ⟨⟨(fun i hi => by simp at hi), 128, Nat.le_refl _, hP5⟩, hB5⟩ ?round ?done ?stop
  case round =>
    rintro l pre x W ⟨⟨hall, p, hp, hP⟩, hB⟩ hlen
    have hpl : pre.length ≤ 9 := by rw [List.length_take] at hlen; omega
    have HA := Lib.hid hall
    have HBW := Lib.hid hB
    have HP := Lib.hid hP
    have lp := hP.p.lt
    have fp := hP.p.frozen
    have cp := hP.p.cell
    simp only [byV]
    clear hall hB hP hP5 hB5 hlen hp HST
    gi_wp2
    refine ⟨KeepsOthers.setCell _ _ _, (Below.refl g W).setCell (p := ⟨g + 3, 0, none⟩) (by show g ≤ g + 3; omega) _, ⟨⟨HA.out, HP.out.setp _⟩, HBW.out.setCell (p := ⟨g + 3, 0, none⟩) (by show g ≤ g + 3; omega) _⟩, ?_⟩
    clear HA HBW HP lp fp cp
    rintro W2 ⟨⟨hall, hP⟩, hB⟩
    have HA := Lib.hid (show allge pre from hall)
    have HBW := Lib.hid hB
    have hP' : Pb g (Xv pre) pre.length x.toNat W2 := hP
    obtain ⟨e1, e2⟩ := vl_small hpl
    rw [Xv, e1] at hP'
    have cf := hP'.f.cell
    have cp := hP'.p.cell
    obtain ⟨y, hy⟩ : ∃ y, nx (vl pre) pre.length x.toNat = y := ⟨_, rfl⟩
    have HX := Lib.hid (show Xv (pre ++ [x]) = y by rw [← hy, nx_vl]; rfl)
    have HL := Lib.hid (show (pre ++ [x]).length = pre.length + 1 by rw [List.length_append]; rfl)
    have PUT := Lib.hid (put_any g (vl pre) pre.length x.toNat x.toNat y W2 hpl e2 hP' (Lib.hid hy))
    have hn1 : 1 ≤ n - 1 - 1 := by omega
    have hxb := u8_bd x
    clear hall hB hP hP' e1 e2 hy
    by_cases hx : x.toNat < 128
    · have HXX := Lib.hid hx
      have hxi : (x.toNat : Int) < 128 := by omega
      clear hx
      gi_wp2_with (refine ⟨trivial, ?_⟩; gi_at_call 44; refine (CallsIn.inRound l (callsIn_wide.2 PUT.out)).mono ?_; rintro e w' ⟨⟨v, rfl⟩, hP3, ko, kb⟩
                   have P3 := Lib.hid hP3
                   have KO := Lib.hid ko
                   have KB := Lib.hid kb
                   have cp3 := hP3.p.cell
                   clear hP3 ko kb cp cf)
      refine ⟨KO.out, ⟨pre, x, rfl, rfl, HA.out, HXX.out, ?_⟩, HBW.out.trans KB.out⟩
      rw [HX.out, HL.out]
      exact P3.out
    · have HXX := Lib.hid (show 128 ≤ x.toNat by omega)
      have hxi : ¬ ((x.toNat : Int) < 128) := by omega
      clear hx
      gi_wp2_with (refine ⟨trivial, ?_⟩; gi_at_call 44; refine (CallsIn.inRound l (callsIn_wide.2 PUT.out)).mono ?_; rintro e w' ⟨⟨v, rfl⟩, hP3, ko, kb⟩
                   have P3 := Lib.hid hP3
                   have KO := Lib.hid ko
                   have KB := Lib.hid kb
                   have cp3 := hP3.p.cell
                   clear hP3 ko kb cp cf)
      refine ⟨KO.out, KB.out, ⟨allge_snoc HA.out HXX.out, x.toNat, HXX.out, ?_⟩, HBW.out.trans KB.out⟩
      rw [HX.out, HL.out]
      exact P3.out
  case done =>
    rintro D xs W hD rfl ⟨⟨hall, p, hp, hP⟩, hB⟩ hK
    obtain ⟨d1, d2⟩ := done_eq hall hp
    rw [hv.out.2.2] at d1 d2
    have hV : Hid (V = 0 ∧ N = 0) := Lib.hid (by
      have h := hv.out
      rw [rdV, rdN, if_neg (by rw [h.2.2]; exact d2), if_neg (by rw [h.2.2]; exact d2)] at h
      exact ⟨h.1.symm, h.2.1.symm⟩)
    have cs := hP.s.cell
    have cp := hP.p.cell
    have hE : ((E : Int) != 0) = true := by simp; omega
    have WR := Lib.hid d1
    have HBW := Lib.hid hB
    obtain ⟨z, hz⟩ : ∃ z, (b.take 10).length = z := ⟨_, rfl⟩
    rw [hz] at cs WR
    clear hall hP hB d1 d2 hp hz HST hP5 hB5
    gi_wp2_with (refine ⟨trivial, ?_⟩; gi_at_call 46; refine (callsIn_wide.2 (wrong_any p z E _ WR)).mono ?_; rintro e w' ⟨rfl, rfl⟩)
    refine ⟨by simp, .inl ⟨_, _, rfl, run_takeDeferred hK, ?_⟩⟩
    refine ⟨_, results_tmp3 rfl _ _ _, ?_⟩
    rw [hV.out.1, hV.out.2]
    exact ⟨rfl, by rw [hg]; exact HBW.out.trans (belowK_b (w := w) hgw _ D _ _ (by omega) hK rfl rfl)⟩
  case stop =>
    rintro D c pre W hD hSp ⟨⟨q, y, rfl, rfl, hq, hy, hP⟩, hB⟩ hK
    obtain ⟨d1, d2⟩ := stop_eq hSp hq hy
    rw [hv.out.2.2] at d1 d2
    have hln : (q ++ [y]).length = q.length + 1 := by rw [List.length_append]; rfl
    rw [hln] at hP
    have cx := hP.x.cell
    have cs := hP.s.cell
    have cp := hP.p.cell
    have WR := Lib.hid d1
    have HBW := Lib.hid hB
    obtain ⟨z, hz⟩ : ∃ z, q.length + 1 = z := ⟨_, rfl⟩
    obtain ⟨r, hr⟩ : ∃ r, Xv (q ++ [y]) = r := ⟨_, rfl⟩
    obtain ⟨p, hpp⟩ : ∃ p, y.toNat = p := ⟨_, rfl⟩
    rw [hz] at cs WR
    rw [hr] at cx
    rw [hpp] at cp WR
    by_cases hE0 : E = 0
    · have HE := Lib.hid hE0
      have d3 := d2 hE0
      rw [hv.out.1, hv.out.2.1, hz, show vl (q ++ [y]) % 18446744073709551616 = r from hr] at d3
      have HV := Lib.hid d3
      have hE : ((E : Int) != 0) = false := by simp; omega
      clear d1 d2 d3 hE0 hSp hq hy hP hB hln hz hr hpp HST hP5 hB5
      gi_wp2_with (refine ⟨trivial, ?_⟩; gi_at_call 46; refine (callsIn_wide.2 (wrong_any p z E _ WR)).mono ?_; rintro e w' ⟨rfl, rfl⟩)
      refine wpIn_wide.2 ?_
      go_region
      have hK2 : w'.drew.heap[D]? = some (.deferred (some [])) := hK
      gi_wp2
      refine ⟨by simp, .inl ⟨_, _, rfl, run_takeDeferred hK2, ?_⟩⟩
      refine ⟨_, results_tmp3 rfl _ _ _, ?_⟩
      rw [HV.out.1, HV.out.2, HE.out]
      exact ⟨rfl, by rw [hg]; exact HBW.out.drew.trans (belowK_b (w := w) hgw _ D _ _ (by omega) hK2 rfl rfl)⟩
    · have hV : Hid (V = 0 ∧ N = 0) := Lib.hid (by
        have h := hv.out
        rw [rdV, rdN, if_neg (by rw [h.2.2]; exact hE0), if_neg (by rw [h.2.2]; exact hE0)] at h
        exact ⟨h.1.symm, h.2.1.symm⟩)
      have hE : ((E : Int) != 0) = true := by simp; omega
      clear d1 d2 hE0 hSp hq hy hP hB hln hz hr hpp HST hP5 hB5
      gi_wp2_with (refine ⟨trivial, ?_⟩; gi_at_call 46; refine (callsIn_wide.2 (wrong_any p z E _ WR)).mono ?_; rintro e w' ⟨rfl, rfl⟩)
      refine ⟨by simp, .inl ⟨_, _, rfl, run_takeDeferred hK, ?_⟩⟩
      refine ⟨_, results_tmp3 rfl _ _ _, ?_⟩
      rw [hV.out.1, hV.out.2]
      exact ⟨rfl, by rw [hg]; exact HBW.out.trans (belowK_b (w := w) hgw _ D _ _ (by omega) hK rfl rfl)⟩

theorem inPieces_is (a : Option Addr) (n c : Nat) (b : List UInt8) (w : World) (hn : b.length = n) (hc : n ≤ c) (hb : By w a b) (V N E : Nat) (hv : Hid (rdV b = V ∧ rdN b = N ∧ rdE b = E)) :
    Calls Try.prog 37 #[.slice a n c] w fun e w' => e = .returned (.tuple #[.int .u64 (V : Int), .int .i64 (N : Int), .int .i64 (E : Int)]) ∧ Below w.heap.size w w' := by
  subst hn
  exact callsIn_wide.1 (inPieces_in 5 rfl a c b w hc hb V N E hv)
end Go.Proofs.Ytdepbhikkjfcjaa
