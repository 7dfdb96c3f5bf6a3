/- The contracts of cmp.Compare at whole numbers, and of the closure by which firings are put in order.
The contract of fire.inOrder: all firings of rules in years, in order. -/
import Derived.Test.YtdmfgechoanmlaaGreatDoorMZG
import Derived.Test.YtdmfgechoanmlaaGreatDoorMZK
import Derived.Sort.QuietIn
import Derived.Deep.RegionWith
import Derived.Stop.RegionWithIn
import Derived.BigRegionIn
import Derived.LoopNIn
import Derived.LoopIn
import Derived.WalkMore
namespace Go.Proofs.YtdmfgechoanmlaaGreatDoor
open Go Go.RowKit Go.Sort

def cmpI (a b : Int) : Int := if a < b then -1 else if b < a then 1 else 0
theorem fcmp_is (a b v : Int) (w : World) (hv : cmpI a b = v) : Calls Tryz.prog 101 #[.int .i64 a, .int .i64 b] w fun e w' => e = .returned (.int .i64 v) ∧ w = w' := by
  subst hv
  have NN : ∀ (x : Int) W, Calls Tryz.prog 125 #[.int .i64 x] W fun e w' => e = .returned (.bool false) ∧ W = w' := by
    intro x W
    go_enter Tryz.func125, Tryz.ntmps125
    go_wp2
    go_ret
    exact ⟨by simp, rfl⟩
  unfold cmpI
  rcases Int.lt_trichotomy a b with h | rfl | h
  · rw [if_pos h]
    go_enter Tryz.func101, Tryz.ntmps101
    go_wp2_with (go_at_call 125; refine (NN _ _).mono ?_; (rintro e w1 ⟨rfl, rfl⟩); simp only [])
    go_ret
    exact ⟨rfl, rfl⟩
  · have h1 : ¬ a < a := by omega
    have h2 : ¬ a > a := by omega
    rw [if_neg h1, if_neg h1]
    go_enter Tryz.func101, Tryz.ntmps101
    go_wp2_with (go_at_call 125; refine (NN _ _).mono ?_; (rintro e w1 ⟨rfl, rfl⟩); simp only [])
    go_ret
    exact ⟨rfl, rfl⟩
  · have h1 : ¬ a < b := by omega
    have h2 : a > b := by omega
    rw [if_neg h1, if_pos h]
    go_enter Tryz.func101, Tryz.ntmps101
    go_wp2_with (go_at_call 125; refine (NN _ _).mono ?_; (rintro e w1 ⟨rfl, rfl⟩); simp only [])
    go_ret
    exact ⟨rfl, rfl⟩

def cfF (x y : FV) : Int := cmpI x.nm y.nm
theorem lt_cfF (x y : FV) : ltOf cfF x y = decide (x.nm < y.nm) := by
  unfold ltOf cfF cmpI
  split
  · simp [*]
  · split <;> simp [*]
theorem wordF : WOrd (ltOf cfF) where
  asym a b h := by rw [lt_cfF] at h ⊢; simp at h ⊢; omega
  trans a b c h1 h2 := by rw [lt_cfF] at h1 h2 ⊢; simp at h1 h2 ⊢; omega

theorem fless_is (x y : FV) (w : World) : Calls Tryz.prog 161 #[.agg (cF x).toArray, .agg (cF y).toArray] w fun e w' => e = .returned (.int .i64 (cfF x y)) ∧ ∃ q os, w' = grow (w.drewN q) os := by
  have CM := Lib.hid (fun W => fcmp_is x.nm y.nm _ W rfl)
  have e0 : ((w.alloc (.cells #[.int .i64 x.nm, .int .i64 x.kd, .int .i64 x.sv, .string ⟨x.lt.toArray⟩] 145)).alloc (.cells #[.int .i64 y.nm, .int .i64 y.kd, .int .i64 y.sv, .string ⟨y.lt.toArray⟩] 145)) = grow (w.drewN 0) (#[.cells #[.int .i64 x.nm, .int .i64 x.kd, .int .i64 x.sv, .string ⟨x.lt.toArray⟩] 145] ++ #[.cells #[.int .i64 y.nm, .int .i64 y.kd, .int .i64 y.sv, .string ⟨y.lt.toArray⟩] 145]) := by
    rw [alloc_eq_grow, alloc_eq_grow, grow_grow]; rfl
  have E0 := Lib.hid e0
  clear e0
  unfold cF
  go_enter Tryz.func161, Tryz.ntmps161
  go_wp2_with (go_at_call 101; refine (CM.out _).mono ?_; (rintro e w1 ⟨rfl, rfl⟩); simp only [])
  go_ret
  exact ⟨rfl, 0, _, E0.out⟩
theorem cF_len (x : FV) : (cF x).length = 4 := rfl
theorem cF_one (x : FV) : ∀ v ∈ cF x, v.oneCell' = true := by
  intro v hv
  simp [cF] at hv
  rcases hv with rfl | rfl | rfl | rfl <;> rfl
theorem cmpF_lays (blk off n : Nat) (w : World) : CmpLays Tryz.prog 161 #[] cF 4 cfF blk off n w := fun m os dk _ x y => by
  have := fless_is x y (sortWorldK cF 4 w blk off m dk os)
  simpa using this
theorem sizeF (w : World) : (Go.sizeOf 145).run Tryz.prog w = .ok 4 w := by simp [go_sem]
end Go.Proofs.YtdmfgechoanmlaaGreatDoor

namespace Go.Proofs.YtdmfgechoanmlaaGreatDoor
open Go Go.RowKit Go.Sort
attribute [local go_sem] Oper.semAt_some
attribute [local go_sem] coV fvV

theorem ffirings_is (q : Addr) (a b s : Int) (w : World) :
    Calls Tryz.prog 139 #[.pointer (some q), coV a b s] w fun e w' => e = .returned (.func (.func 155) #[] #[.pointer (some ⟨w.heap.size + 1, 0, none⟩), .pointer (some ⟨w.heap.size, 0, none⟩)]) ∧ w' = (w.alloc (.cells #[.pointer (some q)] 178)).alloc (.cells #[.int .i64 a, .int .i64 b, .int .i64 s] 192) := by
  have hmf : ∀ (fn : Fn) (first cap : Array Value) (w : World), (Instr.makeFunc fn first cap).run Tryz.prog w = .ok (.func fn first cap) w := fun _ _ _ _ => rfl
  unfold coV
  go_enter Tryz.func139, Tryz.ntmps139
  go_wp2
  go_ret
  exact ⟨rfl, rfl⟩

/-- A rule's firings in years. -/
def frA (r : RV) (a b : Int) : List (Int × FV) := frL r (max (max a r.fr) (-100000)) (min (min b r.tl) 100000 + 1 - max (max a r.fr) (-100000)).toNat
/-- All rules', one rule behind the other. -/
def allF (rs : List RV) (a b : Int) : List FV := rs.flatMap fun r => (frA r a b).map Prod.snd
theorem allF_snoc {rs : List RV} {a b : Int} {i : Nat} {r : RV} (h : rs[i]? = some r) : allF (rs.take (i + 1)) a b = allF (rs.take i) a b ++ (frA r a b).map Prod.snd := by
  have hi := (List.getElem?_eq_some_iff.1 h).1
  have e : rs.take (i + 1) = rs.take i ++ [r] := by
    rw [List.take_succ_eq_append_getElem hi]
    rw [List.getElem?_eq_getElem hi] at h
    injection h with h
    rw [h]
  rw [e]; simp [allF]
theorem frA_len {r : RV} {a b : Int} (h : b - a ≤ 5000) : (frA r a b).length ≤ 5001 := Nat.le_trans (frL_len _ _ _) (by omega)
theorem allF_len {a b : Int} (h : b - a ≤ 5000) (rs : List RV) : (allF rs a b).length ≤ rs.length * 5001 := by
  induction rs with
  | nil => simp [allF]
  | cons r rs ih =>
    have := frA_len (r := r) h
    show ((frA r a b).map Prod.snd ++ allF rs a b).length ≤ _
    rw [List.length_append, List.length_map, List.length_cons, Nat.add_mul]; omega

/-- What the call's variable 'all' holds. -/
def RowI (w : World) (fs : List FV) (W : World) : Prop :=
  (∃ v, Go.Boxed W w.heap.size 172 v ∧ W.ownsRow w.heap.size 145 4 v fs.length (fcl cF fs) ∧ True) ∧ Below w.heap.size w W
theorem rowI_own {β : Type} (w : World) (B : Nat) (f : β → List FV) (hB : w.heap.size ≤ B) : OwnFrom B (fun (s : β) W => RowI w (f s) W) :=
  OwnFrom.and (Own.from (holdsRow_own w.heap.size w.heap.size 172 145 4 (fun s : β => (f s).length) (fun s => fcl cF (f s)) (fun _ _ => True)) _) (ownFrom_below (Nat.le_refl _) hB)

/-- Marks of loops over functions: each one's deferred calls, none. -/
def DsOk (w : World) (ds : List Nat) (W : World) : Prop := ds.Nodup ∧ ∀ D ∈ ds, w.heap.size ≤ D ∧ W.heap[D]? = some (.deferred (some []))
def dsV (ds : List Nat) : List Deferred := ds.map fun D => { target := .collected D, args := #[] }
theorem dsOk_own {β : Type} (w : World) (B : Nat) (ds : List Nat) (hB : ∀ D ∈ ds, D < B) : OwnFrom B (fun (_ : β) W => DsOk w ds W) := fun _ W W' row hs hg hr =>
  ⟨hs.1, fun D hD => ⟨(hs.2 D hD).1, (hg.block D (Array.getElem?_eq_some_iff.1 (hs.2 D hD).2).1 (fun e => by have := (hr D e.symm).1; have := hB D hD; omega)).trans (hs.2 D hD).2⟩⟩
theorem DsOk.keep {w W W' : World} {ds : List Nat} (h : DsOk w ds W) (k : KeepsOthers W W') : DsOk w ds W' := ⟨h.1, fun D hD => ⟨(h.2 D hD).1, k.same _ _ (h.2 D hD).2 rfl⟩⟩
theorem DsOk.lt {w W : World} {ds : List Nat} (h : DsOk w ds W) : ∀ D ∈ ds, D < W.heap.size := fun D hD => (Array.getElem?_eq_some_iff.1 (h.2 D hD).2).1
theorem DsOk.more {w W : World} {ds : List Nat} {D : Nat} (h : DsOk w ds W) (h1 : w.heap.size ≤ D) (h2 : ∀ x ∈ ds, x < D) (h3 : W.heap[D]? = some (.deferred (some []))) : DsOk w (D :: ds) W :=
  ⟨List.nodup_cons.2 ⟨fun hm => by have := h2 D hm; omega, h.1⟩, fun x hx => by
    rcases List.mem_cons.1 hx with rfl | hx
    · exact ⟨h1, h3⟩
    · exact h.2 x hx⟩
theorem DsOk.below {w W W' : World} {ds : List Nat} (h : DsOk w ds W) (k : Below W.heap.size W W') : DsOk w ds W' := ⟨h.1, fun D hD => ⟨(h.2 D hD).1, (k.block D (h.lt D hD)).trans (h.2 D hD).2⟩⟩
/-- At the call's end the marks are shut, one by one: nothing that is cells turns. -/
theorem leaves_all {F : Fence} {n : Nat} {P : Program} {fn : Func} {tmps : Array Value} {R : Ending → World → Prop} (w : World) : ∀ (ds : List Nat) (W : World), DsOk w ds W →
    (∀ W', Below w.heap.size W W' → KpT (fun _ => true) W W' → LeavesInM F n P fn tmps R [] .returning W') → LeavesInM F n P fn tmps R (dsV ds) .returning W
  | [], W, _, k => k W (Below.refl _ _) (fun _ _ _ _ h _ => rfl)
  | D :: ds, W, h, k => by
    have hD := h.2 D (by simp)
    refine ⟨by simp, .inl ⟨D, _, rfl, run_takeDeferred hD.2, ?_⟩⟩
    have hne := (List.nodup_cons.1 h.1).1
    refine leaves_all w ds _ ⟨(List.nodup_cons.1 h.1).2, fun x hx => ⟨(h.2 x (by simp [hx])).1, (World.putObj_heap_other (fun e => hne (by rw [← e]; exact hx))).trans (h.2 x (by simp [hx])).2⟩⟩ fun W' b kp => ?_
    have b0 : Below w.heap.size W (W.putObj D (.deferred none)) := (Below.refl _ W).grown (grownBy_putObj' W D _) (Nat.le_trans hD.1 (Nat.le_of_lt (h.lt D (by simp)))) (fun j hj => by cases hj; exact hD.1)
    refine k W' (b0.trans b) (KpT.trans (fun j cs t fz hj _ => World.putObj_heap_other (fun e => by subst e; rw [hD.2] at hj; cases hj)) kp)

theorem map_snoc (pre : List (Int × FV)) (x : Int × FV) : (pre ++ [x]).map Prod.snd = pre.map Prod.snd ++ [x.2] := by simp
theorem firing_info : (Tryz.prog.info? 145).map (fun i => (i.zero, i.size, i.bytes)) = some (some (fvV ⟨0, 0, 0, []⟩), 4, 40) := by kernel_rfl
theorem four_new (W : World) (f : FV) (t : TypeId) : ∀ j u, (cF f)[j]? = some u → (W.alloc (.cells #[.int .i64 f.nm, .int .i64 f.kd, .int .i64 f.sv, .string ⟨f.lt.toArray⟩] t)).cell? ((⟨W.heap.size, 0, none⟩ : Addr).add j) = some u := by
  intro j u hu
  have h := heap_alloc_new W (.cells #[.int .i64 f.nm, .int .i64 f.kd, .int .i64 f.sv, .string ⟨f.lt.toArray⟩] t)
  have := cell_of_row _ W.heap.size j _ _ _ h
  rcases j with _ | _ | _ | _ | j <;> simp [cF] at hu <;> subst hu <;> first | (simp [Addr.add]; done) | simpa [Addr.add] using this

set_option maxHeartbeats 4000000 in
set_option maxRecDepth 20000 in
theorem forder_in (A0 : Option Addr) (n c0 : Nat) (rs : List RV) (a b : Int) (w : World) (hA : LaidF w) (hR : RowsAt 11 cR A0 rs w) (hn : rs.length = n) (hn1 : n ≤ 1000) (hok : ∀ r ∈ rs, okR r) (ha : -99000 ≤ a) (hb : b ≤ 99000) (hab : b - a ≤ 5000) (N : Nat) (hN : 5 ≤ N) :
    CallsIn Fence.wide N Tryz.prog 141 #[.slice A0 n c0, .int .i64 a, .int .i64 b] w fun e w' => ∃ A c, e = .returned (.slice A (allF rs a b).length c) ∧ RowsAt 4 (fun f => (cF f).toArray) A (iso (ltOf cfF) (allF rs a b)) w' ∧ Below w.heap.size w w' ∧ ∀ x, A = some x → w.heap.size ≤ x.block := by
  have h1 : 1 ≤ N := by omega
  refine callsIn_of_wp_marks Tryz.func141 rfl trivial ?_ rfl
  simp only [Tryz.ntmps141, List.size_toArray, List.length_cons, List.length_nil, Nat.reduceAdd, Nat.reduceSub, Array.replicate_succ, Array.replicate_zero, List.push_toArray, List.append_toArray, List.nil_append, List.cons_append]
  gi_wp2
  have HA := Lib.hid hA
  have HR := Lib.hid hR
  have HN := Lib.hid hn
  have HK := Lib.hid hok
  have bO := Go.Boxed.new w 172 (.slice none 0 0)
  have R0 : RowI w (allF (rs.take 0) a b) (w.alloc (.cells #[.slice none 0 0] 172)) := ⟨⟨_, bO, World.ownsRow_nil _ _ _ _, trivial⟩, (Below.refl _ w).alloc (Nat.le_refl _) _⟩
  clear hA hR hn hok bO
  refine wpIn_loop (fun A W => ∃ (i : Nat) (ds : List Nat) (u8 u10 u14 u15 u16 u17 u18 u19 u20 u21 u22 u23 u24 u25 u26 u27 u28 u29 : Value), (i ≤ n ∧ RowI w (allF (rs.take i) a b) W ∧ DsOk w ds W) ∧ A = { tmps := #[.slice A0 n c0, .int .i64 a, .int .i64 b, undef, undef, undef, .slice none 0 0, .pointer (some ⟨w.heap.size, 0, none⟩), u8, undef, u10, .slice A0 n c0, .int .i64 n, .int .i64 ((i : Nat)), u14, u15, u16, u17, u18, u19, u20, u21, u22, u23, u24, u25, u26, u27, u28, u29, undef, undef, undef], defers := dsV ds }) (fun A _ => n - (intOf (A.tmps.getD 13 undef)).toNat) ?start ?round
  case start => exact ⟨0, [], undef, undef, undef, undef, undef, undef, undef, undef, undef, undef, undef, undef, undef, undef, undef, undef, undef, undef, ⟨Nat.zero_le _, R0, List.nodup_nil, by simp⟩, rfl⟩
  case round =>
    clear R0
    rintro _ W ⟨i, ds, u8, u10, u14, u15, u16, u17, u18, u19, u20, u21, u22, u23, u24, u25, u26, u27, u28, u29, ⟨hi, hRow, hDs⟩, rfl⟩
    by_cases hlt : i < n
    · have hltz : (i : Int) < (n : Int) := by omega
      obtain ⟨r, hr⟩ : ∃ r, rs[i]? = some r := ⟨_, List.getElem?_eq_getElem (by rw [HN.out]; exact hlt)⟩
      obtain ⟨L, off, rfl, hrul⟩ := rul_at HR.out hr
      have RU := Lib.hid (hrul.next hRow.2)
      have hL := hrul.1
      have OKr := Lib.hid (HK.out r (List.mem_of_getElem? hr))
      have SN := Lib.hid (allF_snoc (a := a) (b := b) hr)
      have UP := Lib.hid (fun X => fup_is a b X)
      have hAl := HA.out.ah.lt
      have hRs := hRow.2.size
      have HRow := Lib.hid hRow
      have HDs := Lib.hid hDs
      clear hr hrul hRow hDs
      gi_wp2
      refine wpIn_calm ?_
      refine wpIn_wide.2 ?_
      go_region_with (first
        | (go_at_call 159; refine (UP.out _).mono ?_; rintro e w2 ⟨rfl, k2⟩)
        | (go_at_call 139; refine (ffirings_is _ a b 1 _).mono ?_; rintro e w3 ⟨rfl, rfl⟩))
      all_goals
        simp only [calmQ]
        have k2 : RowKit.Below W.heap.size W w2 := ((Below.refl _ W).drew).trans k2
        have RU2 := Lib.hid (RU.out.next k2)
        have HRow2 := Lib.hid (rowI_own (β := Unit) w w.heap.size (fun _ => allF (rs.take i) a b) (Nat.le_refl _) () _ _ none HRow.out (grown_bel k2 none) (fun r e => by cases e))
        have HDs2 := Lib.hid (HDs.out.below k2)
        have hs2 := k2.size
        clear k2
        obtain ⟨W3, hW3⟩ : ∃ W3, ((w2.alloc (.cells #[.pointer (some ⟨L, off + i * 11, none⟩)] 178)).alloc (.cells #[.int .i64 a, .int .i64 b, .int .i64 1] 192)) = W3 := ⟨_, rfl⟩
        have B3 : Hid (TwoB w2 w2.heap.size #[.pointer (some ⟨L, off + i * 11, none⟩)] 178 (w2.heap.size + 1) #[.int .i64 a, .int .i64 b, .int .i64 1] 192 W3) := Lib.hid (by
          rw [← hW3]; exact ⟨BlkN.fst (w := w2) _ 178 _, BlkN.two w2 _ _ _⟩)
        have e3 : Below w2.heap.size w2 W3 := B3.out.a.bel
        have RU3 := Lib.hid (RU2.out.next e3)
        have R3 := Lib.hid (rowI_own (β := Unit) w w.heap.size (fun _ => allF (rs.take i) a b) (Nat.le_refl _) () _ _ none HRow2.out (grown_bel e3 none) (fun r e => by cases e))
        have D3 := Lib.hid (HDs2.out.below e3)
        have A3 := Lib.hid (HA.out.next R3.out.2)
        have hs3 := B3.out.b.lt
        try simp only [hW3]
        clear hW3 e3 RU RU2 HRow HRow2 HDs HDs2
        gi_wp2
        obtain ⟨c0', c1', c2'⟩ := cel3 B3.out.b.blk
        obtain ⟨M, hM⟩ : ∃ M, (min (min b r.tl) 100000 + 1 - max (max a r.fr) (-100000)).toNat = M := ⟨_, rfl⟩
        have hF1 : -99000 ≤ max (max a r.fr) (-100000) := by omega
        have hT1 : min (min b r.tl) 100000 ≤ 99000 := by omega
        have LM := Lib.hid (frL_len r (max (max a r.fr) (-100000)) M)
        have hMl : M ≤ 5001 := by omega
        have EM : Hid ((frL r (max (max a r.fr) (-100000)) M).map Prod.snd = (frA r a b).map Prod.snd) := Lib.hid (by unfold frA; rw [hM])
        refine range_kp h1 (gf := 155) (lb := #[.pointer (some ⟨w2.heap.size + 1, 0, none⟩), .pointer (some ⟨w2.heap.size, 0, none⟩)]) rfl (enters_of Tryz.func155 (by kernel_rfl) rfl)
          (firings_own (N - 1) (by omega) (w2.heap.size + 1) w2.heap.size L (off + i * 11) r a b _ _ M W3 RU3.out OKr.out A3.out c0' c1' c2' B3.out.a.blk w.heap.size (by omega) hAl rfl rfl hM hF1 hT1) (by omega) (fun _ => rfl) KpT.trans KpT.put
          (fun pre X => RowI w (allF (rs.take i) a b ++ pre.map Prod.snd) X ∧ DsOk w ds X ∧ pre.length ≤ M) (fun _ _ _ => False) ?hI ?hIx ⟨by simpa using R3.out, D3.out, Nat.zero_le _⟩ ?round2 ?done ?stop
        case hI => exact OwnFrom.and (rowI_own w _ _ (by omega)) (OwnFrom.and (dsOk_own w _ ds (fun D hD => D3.out.lt D hD)) (fun s X Y row h _ _ => h))
        case hIx => exact fun c s X Y row h => h.elim
        case round2 =>
          rintro l pre x X ⟨hrow, hds, hpl⟩ hOk hsX
          simp only [encF]
          have hlen : pre.length + 1 ≤ M := by
            have h := hOk.length_le
            have := LM.out
            rw [List.length_append, List.length_singleton] at h
            omega
          have hfl : (allF (rs.take i) a b ++ pre.map Prod.snd).length ≤ 5100000 := by
            have h := allF_len hab (rs.take i)
            rw [List.length_take] at h
            rw [List.length_append, List.length_map]
            have : min i rs.length ≤ 1000 := by omega
            have := Nat.mul_le_mul_right 5001 this
            omega
          have HF := Lib.hid (map_snoc pre x)
          obtain ⟨y, f⟩ := x
          simp only at HF ⊢
          generalize hfs : allF (rs.take i) a b ++ pre.map Prod.snd = fs at hrow hfl
          have HFS := Lib.hid hfs
          clear hOk hpl hfs
          obtain ⟨f1, f2, f3, f4⟩ := f
          gi_wp2
          have bX : RowKit.Below X.heap.size X (X.alloc (.cells #[.int .i64 f1, .int .i64 f2, .int .i64 f3, .string ⟨f4.toArray⟩] 145)) := (Below.refl _ X).alloc (Nat.le_refl _) _
          refine ⟨⟨KeepsOthers.alloc X _, bX.mono (by omega), KpT.below bX⟩, fun _ Y => RowI w fs Y ∧ DsOk w ds Y ∧ Y.heap[X.heap.size]? = some (.cells #[.int .i64 f1, .int .i64 f2, .int .i64 f3, .string ⟨f4.toArray⟩] 145 (0, 0)),
            OwnFrom.and (rowI_own w _ _ (by omega)) (OwnFrom.and (dsOk_own w _ ds (fun D hD => D3.out.lt D hD)) (fun s A B row h hg hr => (hg.block _ (Array.getElem?_eq_some_iff.1 h).1 (fun e => by obtain ⟨-, o, ho, hc⟩ := hr _ e.symm; rw [h] at ho; cases ho; cases hc)).trans h)),
            ⟨rowI_own (β := Unit) w w.heap.size (fun _ => fs) (Nat.le_refl _) () _ _ none hrow (grown_bel bX none) (fun r e => by cases e), hds.below bX, heap_alloc_new X _⟩, ?_⟩
          rintro W2 ⟨⟨⟨v, hv, hro, -⟩, hB⟩, hds2, hblk⟩ hsz2
          have hc := hv.cell
          obtain ⟨y0, y1, y2, y3⟩ := cel4 hblk
          obtain ⟨i0, hi0, hz0, hz1, hz2⟩ := info_parts firing_info
          clear bX hrow hds
          gi_wp2_with (gi_at_builtin; refine wpListIn_append_own _ rfl _ _ 172 rfl w.heap.size 145 i0 (fvV ⟨0, 0, 0, []⟩) 4 40 Tryz.underlying172 hi0 hz0 hz1 hz2 rfl (by decide) _ _ _ rfl (hro.alloc _) ⟨W2.heap.size, 0, none⟩ 1 1 (cF ⟨f1, f2, f3, f4⟩) rfl rfl (four_new W2 ⟨f1, f2, f3, f4⟩ _) (cF_one _) (by simp only [maxLen]; omega) (by omega) (by have := hB.size; simp; omega) ?_; intro v' w1 hown' hgrow _; obtain ⟨g', cap', rfl⟩ := ownsRow_succ hown'; obtain ⟨hv1, hv2, hr2, hk2, hb2⟩ := hv.appended (by decide) hro hB.size (Nat.le_refl _) hown' hgrow; have hc1 := hv1.cell; have hf1 := hv1.frozen)
          refine ⟨⟨hk2, hb2, ?_⟩, ⟨⟨_, hv2, ?_, trivial⟩, hB.trans hb2⟩, hds2.keep hk2, by rw [List.length_append, List.length_singleton]; exact hlen⟩
          · refine KpT.trans (KpT.below ((Below.refl _ _).alloc (Nat.le_refl _) _)) (KpT.trans (KpT.grown hgrow fun j hj => ?_) (KpT.grown (grownBy_setCell' w1 w.heap.size _) fun j hj => ?_))
            · rcases (hro.alloc _).2 with ⟨rfl, -⟩ | ⟨g, cap, cur, rfl, -, hgb, -⟩
              · cases hj
              · cases hj
                exact ⟨_, _, _, hgb, by decide⟩
            · cases hj
              exact ⟨_, _, _, hv1, by decide⟩
          · rw [HF.out, ← List.append_assoc, HFS.out, fcl_app, List.length_append]
            have e : fcl cF [⟨f1, f2, f3, f4⟩] = cF ⟨f1, f2, f3, f4⟩ := by simp [fcl]
            rw [e]; exact hr2
        case done =>
          rintro D xs X hD rfl ⟨hrow, hds, -⟩ hdf
          rw [EM.out] at hrow
          have hrow2 : RowI w (allF (rs.take (i + 1)) a b) X := by rw [SN.out]; exact hrow
          have hdd := hds.more (by omega) (fun x hx => by have := D3.out.lt x hx; omega) hdf
          clear hrow hds hdf
          gi_wp2
          refine ⟨⟨i + 1, D :: ds, _, _, _, _, _, _, _, _, _, _, _, _, _, _, _, _, _, _, ⟨by omega, hrow2, hdd⟩, rfl⟩, ?_⟩
          simp [intOf]; omega
        case stop =>
          rintro D c pre X hD hSp h
          exact h.elim
    · obtain rfl : i = n := by omega
      have hltz : ¬ (i : Int) < (i : Int) := by omega
      have e0 : rs.take i = rs := List.take_of_length_le (by rw [HN.out]; exact Nat.le_refl _)
      rw [e0] at hRow
      obtain ⟨⟨v, hv, hro, -⟩, hB⟩ := hRow
      have hc := hv.cell
      clear e0
      generalize hfs : allF rs a b = fs at hro
      have HFS := Lib.hid hfs
      clear hfs
      rcases hro.2 with ⟨rfl, h0⟩ | ⟨g, cap, cur, rfl, hg, hgb, -⟩
      · have hds := hDs
        gi_wp2_with (refine ⟨trivial, ?_⟩; gi_at_call 160; refine (callsIn_wide.2 (ssort_nil _ _ _)).mono ?_; (rintro e w2 ⟨rfl, rfl⟩); simp only [])
        refine leaves_all w ds _ hds fun W' b kp => ⟨_, results_tmp rfl _ _ _, none, ⟨0, ?_⟩, ?_, hB.trans b, fun x e => by cases e⟩
        · rw [HFS.out, h0]; rfl
        · intro j x hj
          have hl := (List.getElem?_eq_some_iff.1 hj).1
          rw [iso_len, HFS.out, h0] at hl
          omega
      · have hgl := (Array.getElem?_eq_some_iff.1 hgb).1
        have hho := holds_own cF_len hro rfl
        have hfl : fs.length ≤ 5100000 := by
          have h := allF_len hab rs
          rw [HFS.out, HN.out] at h
          omega
        have SS := ssort_is 4 sizeF cF cfF wordF 161 #[] (enters_of Tryz.func161 (by kernel_rfl) rfl) g 0 cap W fs ⟨cF_len, cF_one, hho, hgl⟩ (cmpF_lays g 0 _ W) (by omega)
        have hne : w.heap.size ≠ g := fun e => by
          have h1 : W.heap[w.heap.size]? = some (.cells #[_] 172 (0, 0)) := hv
          rw [e, hgb] at h1
          cases h1
        have hwW := hv.lt
        have HDs := Lib.hid hDs
        have HHO := Lib.hid hho
        have HGB := Lib.hid hgb
        clear hDs hho hgb hro hv
        gi_wp2_with (refine ⟨trivial, ?_⟩; gi_at_call 160; refine (callsIn_wide.2 SS).mono ?_; (rintro e w2 ⟨rfl, S2⟩)
                     have hc2 : w2.cell? ⟨w.heap.size, 0, none⟩ = some (.slice (some ⟨g, 0, none⟩) fs.length cap) := by
                       rw [← hc]; exact World.cell?_of_block (swk_other S2 hne hwW)
                     simp only [])
        have hB2 := hB.trans (sortw_below cF 4 hg hB.size S2)
        have hds2 : DsOk w ds w2 := ⟨HDs.out.1, fun D hD => ⟨(HDs.out.2 D hD).1, (swk_other S2 (fun e => by have := (HDs.out.2 D hD).2; rw [e, HGB.out] at this; cases this) (HDs.out.lt D hD)).trans (HDs.out.2 D hD).2⟩⟩
        refine leaves_all w ds _ hds2 fun W' b kp => ⟨_, results_tmp rfl _ _ _, some ⟨g, 0, none⟩, ⟨cap, ?_⟩, ?_, hB2.trans b, fun x e => by injection e with e; subst e; exact hg⟩
        · rw [HFS.out]; rfl
        · rw [HFS.out]
          intro j x hj
          refine ⟨g, 0, rfl, ?_, fun k v hk hv => ?_⟩
          · exact Nat.lt_of_lt_of_le hgl (Nat.le_trans (sortw_below cF 4 (Nat.le_refl g) (Nat.le_of_lt hgl) S2).size b.size)
          · have hcell := swk_cell (k := 4) S2 hgl HHO.out (iso_len _) hj (by simpa using hv) hk
            have hbk : ∃ cs t fz, w2.heap[g]? = some (.cells cs t fz) := by
              unfold World.cell? at hcell
              split at hcell
              · exact ⟨_, _, _, by assumption⟩
              · cases hcell
            obtain ⟨cs, t, fz, hbk⟩ := hbk
            rw [Nat.zero_add]
            exact (World.cell?_of_block (kp g cs t fz hbk rfl)).trans hcell
end Go.Proofs.YtdmfgechoanmlaaGreatDoor
