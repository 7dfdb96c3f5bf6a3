/- For whatever world and instants the law ZoneShows returns true: where something is wrong with the world.
For whatever world and instants the law ZoneShows returns true: where nothing is wrong with the world.
For whatever world and instants the law ZoneShows returns true: as the card's arguments open. -/
import Derived.Test.YtdmfgechoanmlaaGreatDoorMXC
import Derived.Test.YtdmfgechoanmlaaGreatDoorMXD
import Derived.Deep.RegionHeld3
import Derived.Test.YtdmfgechoanmlaaGreatDoorMXF
import Derived.Test.YtdmfgechoanmlaaGreatDoorZmJ
import Derived.BigQuiet
import Derived.WalkSmall
import Derived.Deep.CutRange
import Derived.Test.YtdmfgechoanmlaaGreatDoorMZQ
import Derived.Test.YtdmfgechoanmlaaGreatDoorMYE
namespace Go.Proofs.YtdmfgechoanmlaaGreatDoor
open Go Go.RowKit Go.Sort
attribute [local go_sem] Oper.semAt_some

/-- Instants that came in. -/
def LsAt (A : Option Addr) (l : List Int) (w : World) : Prop := ∀ i n, l[i]? = some n → ∃ L off, A = some ⟨L, off, none⟩ ∧ L < w.heap.size ∧ w.cell? ⟨L, off + i, none⟩ = some (.int .i64 n)
theorem LsAt.next {A : Option Addr} {l : List Int} {w w' : World} (h : LsAt A l w) (k : Below w.heap.size w w') : LsAt A l w' := fun i n hn => by
  obtain ⟨L, off, e, hL, hc⟩ := h i n hn
  exact ⟨L, off, e, Nat.lt_of_lt_of_le hL k.size, (k.cell (p := ⟨L, off + i, none⟩) hL).trans hc⟩
set_option maxRecDepth 20000 in
set_option maxHeartbeats 3000000 in
theorem zsh_no (x : WV) (A : Option Addr) (c : Nat) (l : List Int) (w : World) (hA : LaidZ w) (hX : WvAt x w) (hO : WvOk x) (hF : FewW x) (hL : ∀ s ∈ x.ss, ∀ r ∈ s.rs, r.lt.length ≤ 1000000000000000)
    (hl : l.length ≤ 10) (hI : LsAt A l w) (v : Int) (hv : opE (wR x) wN (aW x) x.es = v) (h0 : v ≠ 0) :
    Calls Tryz.prog 3 #[wvV x, .slice A l.length c] w fun e w' => e = .returned (.bool true) ∧ Below w.heap.size w w' := by
  have mixed : Tryz.prog.follows .mixedOrders = true := by kernel_rfl
  have hmf : ∀ (fn : Fn) (first cap : Array Value) (w : World), (Instr.makeFunc fn first cap).run Tryz.prog w = .ok (.func fn first cap) w := fun _ _ _ _ => rfl
  have AW := Lib.hid (fun W (k : Below w.heap.size w W) => zawake_is W (Lib.hid (hA.next k).b))
  have FT := Lib.hid (fun W (k : Below w.heap.size w W) => few_is x true W (hX.next k) hO (Lib.hid (.inl ⟨rfl, hF⟩)))
  have WG := Lib.hid (fun W (k : Below w.heap.size w W) => lwrong_is x W (hA.next k) (hX.next k) hO hF hL v hv)
  have ZW := opW_of hA hX hO hF hL
  have CH := Lib.hid (fun W (k : Below w.heap.size w W) => zcheck_is x W (ZW.next k) v hv)
  have EN := Lib.hid (fun W (k : Below w.heap.size w W) => zends_is x W (ZW.next k) v hv)
  have AT := Lib.hid (fun t W (k : Below w.heap.size w W) => zat_no x W (ZW.next k) v t v hv (Lib.hid (.inl ⟨h0, rfl⟩)))
  have RW := Lib.hid (fun W (k : Below w.heap.size w W) => lrows_is x W (hX.next k) hO hF hL)
  have I := Lib.hid hI
  have hvb : (v == 0) = false := by simpa using h0
  have hlb : ¬ (10 : Int) < (l.length : Int) := by omega
  have V0 := Lib.hid h0
  clear hA hX hO hF hL hI hv ZW h0
  have X0 := Lib.hid (BlkN.make (Below.refl w.heap.size w) #[.string ⟨x.nm.toArray⟩, .slice x.az x.es.length x.cz, .slice x.sa x.ss.length x.cs] 27)
  obtain ⟨c0, c1, c2⟩ := cel3 X0.out.blk
  unfold zoV setsV wvV at *
  unfold locV at AT
  obtain ⟨n, hn⟩ : ∃ n, l.length = n := ⟨_, rfl⟩
  have HN := Lib.hid hn
  simp only [hn] at hlb hl ⊢
  clear hn
  go_enter Tryz.func3, Tryz.ntmps3
  repeat (first
    | (go_at_call 11; (with_reducible refine (EN.out _ X3.out.bel).mono ?_); (rintro e w4 ⟨A4, n4, c4, rfl, -, g4, k4⟩); have X4 := Lib.hid (X3.out.next k4); have N4 := g4 V0.out; subst N4; clear k4 g4 c0 c1 c2; obtain ⟨c0, c1, c2⟩ := cel3 X4.out.blk; simp only [])
    | (go_at_call 9; (with_reducible refine (CH.out _ X2.out.bel).mono ?_); (rintro e w3 ⟨rfl, k3⟩); have X3 := Lib.hid (X2.out.next k3); clear k3 c0 c1 c2; obtain ⟨c0, c1, c2⟩ := cel3 X3.out.blk; simp only [])
    | (go_at_call 8; (with_reducible refine (WG.out _ X1.out.bel).mono ?_); (rintro e w2 ⟨A2, n2, c2', rfl, -, g2, k2⟩); have X2 := Lib.hid (X1.out.next k2); have N2 := g2 V0.out; subst N2; clear k2 g2 c0 c1 c2; obtain ⟨c0, c1, c2⟩ := cel3 X2.out.blk; simp only [])
    | (go_at_call 6; (with_reducible refine (FT.out _ X0.out.bel).mono ?_); (rintro e w1 ⟨rfl, k1⟩); have X1 := Lib.hid (X0.out.next k1); clear k1 c0 c1 c2; obtain ⟨c0, c1, c2⟩ := cel3 X1.out.blk; simp only [])
    | go_values | go_skip | go_guarded | go_step | go_upon | go_back)
  go_loopw [9] (fun vi wr => vi = .int .i64 0 ∧ BlkN w w.heap.size #[.string ⟨x.nm.toArray⟩, .slice x.az x.es.length x.cz, .slice x.sa x.ss.length x.cs] 27 wr) (fun _ _ => 0)
  case atStart => exact ⟨rfl, X4.out⟩
  case round =>
    clear X0 X1 X2 X3 X4 c0 c1 c2
    obtain ⟨rfl, hX⟩ := hrel
    obtain ⟨c0, c1, c2⟩ := cel3 hX.blk
    have X := Lib.hid hX
    clear hX
    repeat (first
      | (go_at_call 12; (with_reducible refine (RW.out _ X.out.bel).mono ?_); (rintro e w5 ⟨v5, rfl, -, k5⟩); have X5 := Lib.hid (X.out.next k5); clear k5 c0 c1 c2; simp only [])
      | go_values | go_skip | go_guarded | go_step | go_upon | go_back)
    go_loopw [11] (fun vi wr => ∃ i : Nat, vi = .int .i64 i ∧ i ≤ n ∧ BlkN w w.heap.size #[.string ⟨x.nm.toArray⟩, .slice x.az x.es.length x.cz, .slice x.sa x.ss.length x.cs] 27 wr) (fun vi _ => n - (intOf vi).toNat)
    case atStart => exact ⟨0, rfl, Nat.zero_le _, X5.out⟩
    case round =>
      clear X X5
      obtain ⟨i, rfl, i1, hX⟩ := hrel
      obtain ⟨c0, c1, c2⟩ := cel3 hX.blk
      have X := Lib.hid hX
      clear hX
      have wi : IntKind.i64.wrap ((i : Int) + 1) = (i : Int) + 1 := IntWalk.i64_in _ (by omega)
      by_cases hlt : i < n
      · have hii : (i : Int) < (n : Int) := by omega
        obtain ⟨t, ht⟩ : ∃ t, l[i]? = some t := ⟨_, List.getElem?_eq_getElem (by rw [HN.out]; exact hlt)⟩
        obtain ⟨L, off, hAz, hL, hc⟩ := (I.out.next X.out.bel) i t ht
        have ATt := Lib.hid (AT.out t)
        have d0 := bel_cell c0
        have d1 := bel_cell c1
        have d2 := bel_cell c2
        have d3 := bel_cell hc
        clear I AT RW EN CH WG FT
        subst hAz
        have SK := Lib.hid (fun (w' : World) (k : Below wr.heap.size wr w') => (⟨(k.cell (p := ⟨w.heap.size, 0, none⟩) X.out.lt).trans c0, (k.cell (p := ⟨w.heap.size, 1, none⟩) X.out.lt).trans c1, (k.cell (p := ⟨w.heap.size, 2, none⟩) X.out.lt).trans c2, (k.cell (p := ⟨L, off + i, none⟩) hL).trans hc⟩ : w'.cell? ⟨w.heap.size, 0, none⟩ = some (.string ⟨x.nm.toArray⟩) ∧ w'.cell? ⟨w.heap.size, 1, none⟩ = some (.slice x.az x.es.length x.cz) ∧ w'.cell? ⟨w.heap.size, 2, none⟩ = some (.slice x.sa x.ss.length x.cs) ∧ w'.cell? ⟨L, off + i, none⟩ = some (.int .i64 t)))
        have K0 := Lib.hid (Below.refl wr.heap.size wr)
        clear hc c0 c1 c2 d0 d1 d2 d3 ht
        have KB := Lib.hid (K0.out.alloc (Nat.le_refl _) (.cells #[.int .i64 0, .bool false, .string ⟨#[]⟩] 41)).drew
        have XB := Lib.hid (X.out.next (K0.out.alloc (Nat.le_refl _) (.cells #[.int .i64 0, .bool false, .string ⟨#[]⟩] 41)).drew)
        have LB := Lib.hid ((BlkN.make X.out.bel #[.int .i64 0, .bool false, .string ⟨#[]⟩] 41).next (Below.refl _ (wr.alloc (.cells #[.int .i64 0, .bool false, .string ⟨#[]⟩] 41))).drew)
        repeat (first | go_values | go_skip | go_guarded | go_step | go_upon | go_back)
        go_region_held3 (fun w' => w'.cell? ⟨w.heap.size, 0, none⟩ = some (.string ⟨x.nm.toArray⟩) ∧ w'.cell? ⟨w.heap.size, 1, none⟩ = some (.slice x.az x.es.length x.cz) ∧ w'.cell? ⟨w.heap.size, 2, none⟩ = some (.slice x.sa x.ss.length x.cs) ∧ w'.cell? ⟨L, off + i, none⟩ = some (.int .i64 t)) (first | exact SK.out _ (Below.refl _ wr) | exact SK.out _ (Below.refl _ wr).drew | exact SK.out _ ((Below.refl _ wr).alloc (Nat.le_refl _) _) | exact SK.out _ ((Below.refl _ wr).alloc (Nat.le_refl _) _).drew | exact SK.out _ K6.out | exact SK.out _ (K6.out.alloc K6.out.size _) | exact SK.out _ (K6.out.setCell (Nat.le_refl _) _) | exact SK.out _ (((K6.out.setCell (Nat.le_refl _) _).setCell (Nat.le_refl _) _).setCell (Nat.le_refl _) _) | (trace_state; fail)) (first
          | (go_at_call 13; (with_reducible refine (ATt.out _ XB.out.bel).mono ?_); rintro r w6 ⟨rfl, k6⟩
             have K6 := Lib.hid (KB.out.trans (k6.mono KB.out.size))
             have X6 := Lib.hid (XB.out.next k6)
             have L6 := Lib.hid (LB.out.next k6)
             obtain ⟨q0, q1, q2⟩ := cel3 L6.out.blk
             have f0 := frz (j := 0) L6.out.blk
             have f1 := frz (j := 1) L6.out.blk
             have f2 := frz (j := 2) L6.out.blk)
          | (go_at_call 13; (with_reducible refine (ATt.out _ X.out.bel.drew).mono ?_); rintro r w6 ⟨rfl, k6⟩
             have K6 := Lib.hid (K0.out.drew.trans k6)
             have X6a := Lib.hid (X.out.next ((Below.refl wr.heap.size wr).drew.trans k6))
             have X6 := Lib.hid (X6a.out.more (.cells #[.int .i64 0, .bool false, .string ⟨#[]⟩] 41))
             have L6 := Lib.hid (BlkN.make X6a.out.bel #[.int .i64 0, .bool false, .string ⟨#[]⟩] 41)
             obtain ⟨q0, q1, q2⟩ := cel3 L6.out.blk
             have f0 := frz (j := 0) L6.out.blk
             have f1 := frz (j := 1) L6.out.blk
             have f2 := frz (j := 2) L6.out.blk))
        all_goals
          repeat (first | go_values | go_skip | go_guarded | go_step | go_upon | go_back)
          go_round
          case rel => first | exact ⟨i + 1, rfl, by omega, X7.out⟩ | exact ⟨i + 1, rfl, by omega, X6.out⟩ | exact ⟨i + 1, rfl, by omega, ((X6.out.gr (setC_grown _ wr.heap.size 0 _) (fun r hr => by injection hr with hr; have := X.out.lt; omega)).gr (setC_grown _ wr.heap.size 1 _) (fun r hr => by injection hr with hr; have := X.out.lt; omega)).gr (setC_grown _ wr.heap.size 2 _) (fun r hr => by injection hr with hr; have := X.out.lt; omega)⟩
          case measure => simp [intOf]; omega
      · have hii : ¬ (i : Int) < (n : Int) := by omega
        repeat (first
          | (go_at_call 7; (with_reducible refine (AW.out _ X.out.bel).mono ?_); (rintro e w9 ⟨rfl, k9⟩); have X9 := Lib.hid (X.out.next k9); simp only [])
          | go_values | go_skip | go_guarded | go_step | go_upon | go_back)
        go_ret
        exact ⟨rfl, X9.out.bel⟩
end Go.Proofs.YtdmfgechoanmlaaGreatDoor

namespace Go.Proofs.YtdmfgechoanmlaaGreatDoor
open Go Go.RowKit Go.Sort
attribute [local go_sem] Oper.semAt_some

/-- What zone.At answers at an instant, as far as the law asks it. -/
theorem zq_ex (x : WV) (t : Int) (w : World) (hA : LaidZ w) (hX : WvAt x w) (hO : WvOk x) (hF : FewW x) (hL : ∀ s ∈ x.ss, ∀ r ∈ s.rs, r.lt.length ≤ 1000000000000000) (h0 : opE (wR x) wN (aW x) x.es = 0) :
    ∃ QA : Int → Bool → List UInt8 → Int → Prop, (∀ W, Below w.heap.size w W → Calls Tryz.prog 13 #[zoV x, setsV x, .int .i64 t] W fun r w' => ∃ p1 p2 p3 e0, r = .returned (.tuple #[locV p1 p2 p3, .int .i64 e0]) ∧ QA p1 p2 p3 e0 ∧ Below W.heap.size W w') ∧
      ((¬ FrT t ∧ ∀ p1 p2 p3 e0, QA p1 p2 p3 e0 → p1 = 0 ∧ p2 = false ∧ p3 = [] ∧ e0 = 10) ∨ (FrT t ∧ ¬ NrT t) ∨ (NrT t ∧ ∃ k e q1 q2 q3, ZsI x t k e q1 q2 q3 w ∧ ∀ p1 p2 p3 e0, QA p1 p2 p3 e0 → p1 = q1 ∧ p2 = q2 ∧ p3 = q3 ∧ e0 = 0)) := by
  have ZW := opW_of hA hX hO hF hL
  by_cases hn : NrT t
  · obtain ⟨k, e, q1, q2, q3, hz⟩ := zsI_ex x t w hA hX hO hF hL hn h0
    refine ⟨fun p1 p2 p3 e0 => p1 = q1 ∧ p2 = q2 ∧ p3 = q3 ∧ e0 = 0, fun W kW => (hz.at ZW h0 (by have := hn.1; omega) (by have := hn.2; omega) W kW).mono fun r w' h => ⟨q1, q2, q3, 0, h.1, ⟨rfl, rfl, rfl, rfl⟩, h.2⟩, .inr (.inr ⟨hn, k, e, q1, q2, q3, hz, fun _ _ _ _ h => h⟩)⟩
  · by_cases hf : FrT t
    · exact ⟨fun _ _ _ _ => True, fun W kW => (zat_far x t W (hA.next kW) (hX.next kW) hF hO hL hf h0).mono fun r w' ⟨p1, p2, p3, e0, h1, h2⟩ => ⟨p1, p2, p3, e0, h1, trivial, h2⟩, .inr (.inl ⟨hf, hn⟩)⟩
    · refine ⟨fun p1 p2 p3 e0 => p1 = 0 ∧ p2 = false ∧ p3 = [] ∧ e0 = 10, fun W kW => (zat_no x W (ZW.next kW) 0 t 10 h0 (Lib.hid (.inr ⟨rfl, by unfold FrT at hf; omega, rfl⟩))).mono fun r w' h => ⟨0, false, [], 10, h.1, ⟨rfl, rfl, rfl, rfl⟩, h.2⟩, .inl ⟨hf, fun _ _ _ _ h => h⟩⟩
set_option maxRecDepth 20000 in
set_option maxHeartbeats 4000000 in
theorem zsh_in (x : WV) (A : Option Addr) (c : Nat) (l : List Int) (w : World) (hA : LaidZ w) (hX : WvAt x w) (hO : WvOk x) (hF : FewW x) (hL : ∀ s ∈ x.ss, ∀ r ∈ s.rs, r.lt.length ≤ 1000000000000000)
    (hl : l.length ≤ 10) (hI : LsAt A l w) (h0 : opE (wR x) wN (aW x) x.es = 0) :
    Calls Tryz.prog 3 #[wvV x, .slice A l.length c] w fun e w' => e = .returned (.bool true) ∧ Below w.heap.size w w' := by
  have mixed : Tryz.prog.follows .mixedOrders = true := by kernel_rfl
  have hmf : ∀ (fn : Fn) (first cap : Array Value) (w : World), (Instr.makeFunc fn first cap).run Tryz.prog w = .ok (.func fn first cap) w := fun _ _ _ _ => rfl
  have hel := endsV_len (aW x) x.es
  have hne : 0 < x.es.length := by obtain ⟨h, -⟩ := opE_zero h0; omega
  have hn4 : x.es.length ≤ 4 := hF.ne
  have ZW := opW_of hA hX hO hF hL
  have AW := Lib.hid (fun W (k : Below w.heap.size w W) => zawake_is W (Lib.hid (hA.next k).b))
  have FT := Lib.hid (fun W (k : Below w.heap.size w W) => few_is x true W (hX.next k) hO (Lib.hid (.inl ⟨rfl, hF⟩)))
  have WG := fun W (k : Below w.heap.size w W) => lwrong_is x W (hA.next k) (hX.next k) hO hF hL 0 h0
  have CH := Lib.hid (fun W (k : Below w.heap.size w W) => zcheck_is x W (ZW.next k) 0 h0)
  have EN := fun W (k : Below w.heap.size w W) => zends_is x W (ZW.next k) 0 h0
  have AT := Lib.hid (fun t => zq_ex x t w hA hX hO hF hL h0)
  have RR := Lib.hid (fun W (k : Below w.heap.size w W) => lrows_is x W (hX.next k) hO hF hL)
  have ES := Lib.hid (fun W (k : Below w.heap.size w W) => (hX.next k).es)
  have ER := fun A' c' t W (h : IntsAt A' (endsV (aW x) x.es x.es.length) W) => zera_is A' c' (endsV (aW x) x.es x.es.length) t W (by omega) h
  have I := Lib.hid hI
  unfold WrongIs at WG
  obtain ⟨en, hen⟩ : ∃ en, endsV (aW x) x.es x.es.length = en := ⟨_, rfl⟩
  obtain ⟨m0, hm0⟩ : ∃ m, en.length = m := ⟨_, rfl⟩
  obtain ⟨n0, hn0⟩ : ∃ n, x.es.length = n := ⟨_, rfl⟩
  obtain ⟨n, hn⟩ : ∃ n, l.length = n := ⟨_, rfl⟩
  rw [hen] at WG EN ER hel
  rw [hm0] at WG EN ER hel
  have HEN := Lib.hid hen
  have HM0 := Lib.hid hm0
  have HN0 := Lib.hid hn0
  have HN := Lib.hid hn
  have WG := Lib.hid WG
  have EN := Lib.hid EN
  have ER := Lib.hid ER
  clear hA hX hO hF hL hI h0 ZW hen hm0
  unfold zoV setsV wvV at *
  rw [hn0] at FT CH AT RR hel hne hn4 WG EN ⊢
  rw [hn] at hl ⊢
  have HEL := Lib.hid hel
  have hm4 : m0 ≤ 4 := by omega
  clear hel
  have hlb : ¬ (10 : Int) < (n : Int) := by omega
  have X0 := Lib.hid (BlkN.make (Below.refl w.heap.size w) #[.string ⟨x.nm.toArray⟩, .slice x.az n0 x.cz, .slice x.sa x.ss.length x.cs] 27)
  obtain ⟨c0, c1, c2⟩ := cel3 X0.out.blk
  clear hn hn0
  go_enter Tryz.func3, Tryz.ntmps3
  repeat (first
    | (go_at_call 11; (with_reducible refine (EN.out _ X3.out.bel).mono ?_); (rintro e w4 ⟨A4, n4, c4, rfl, g4, -, k4⟩); obtain ⟨e4, hI4⟩ := g4 rfl; obtain rfl := e4.symm; have X4 := Lib.hid (X3.out.next k4); have I4 := Lib.hid hI4; have I24 := Lib.hid (I23.out.next k4); clear k4 g4 hI4 c0 c1 c2; obtain ⟨c0, c1, c2⟩ := cel3 X4.out.blk; simp only [])
    | (go_at_call 9; (with_reducible refine (CH.out _ X2.out.bel).mono ?_); (rintro e w3 ⟨rfl, k3⟩); have X3 := Lib.hid (X2.out.next k3); have I23 := Lib.hid (I22.out.next k3); clear k3 c0 c1 c2; obtain ⟨c0, c1, c2⟩ := cel3 X3.out.blk; simp only [])
    | (go_at_call 8; (with_reducible refine (WG.out _ X1.out.bel).mono ?_); (rintro e w2 ⟨A2, n2, c2', rfl, g2, -, k2⟩); obtain ⟨e2, hI2⟩ := g2 rfl; obtain rfl := e2.symm; have X2 := Lib.hid (X1.out.next k2); have I22 := Lib.hid hI2; clear k2 g2 hI2 c0 c1 c2; obtain ⟨c0, c1, c2⟩ := cel3 X2.out.blk; simp only [])
    | (go_at_call 6; (with_reducible refine (FT.out _ X0.out.bel).mono ?_); (rintro e w1 ⟨rfl, k1⟩); have X1 := Lib.hid (X0.out.next k1); clear k1 c0 c1 c2; obtain ⟨c0, c1, c2⟩ := cel3 X1.out.blk; simp only [])
    | go_values | go_skip | go_guarded | go_step | go_upon | go_back)
  go_loopw [9] (fun vi wr => ∃ i : Nat, vi = .int .i64 (i : Int) ∧ i ≤ m0 ∧ Below w4.heap.size w4 wr) (fun vi _ => m0 - (intOf vi).toNat)
  case atStart => exact ⟨0, rfl, Nat.zero_le _, Below.refl _ _⟩
  case round =>
    obtain ⟨i, rfl, hi, hk⟩ := hrel
    have X := Lib.hid (X4.out.next hk)
    have I2 := Lib.hid (I24.out.next hk)
    have I5 := Lib.hid (I4.out.next hk)
    have HK := Lib.hid hk
    clear X0 X1 X2 X3 c0 c1 c2 hk I22 I23
    by_cases hlt : i < m0
    · have hlt' : (i : Int) < (m0 : Int) := by omega
      obtain ⟨q, hq⟩ : ∃ q, en[i]? = some q := ⟨_, List.getElem?_eq_getElem (by rw [HM0.out]; exact hlt)⟩
      obtain ⟨ga, rfl, hga, ca⟩ := I2.out i q hq
      obtain ⟨gb, rfl, hgb, cb⟩ := I5.out i q hq
      clear hq
      repeat (first | go_values | go_skip | go_guarded | go_step | go_upon | go_back)
      go_quiet (fail)
      repeat (first | go_values | go_skip | go_guarded | go_step | go_upon | go_back)
      exact ⟨⟨i + 1, by simp, by omega, below_drewN HK.out _⟩, by simp [intOf]; omega⟩
    · obtain rfl : i = m0 := by omega
      have hlt' : ¬ ((i : Nat) : Int) < (i : Int) := by omega
      obtain ⟨c0, c1, c2⟩ := cel3 X.out.blk
      clear I4 I24 I5 X4 HK
      repeat (first
        | (go_at_call 12; (with_reducible refine (RR.out _ X.out.bel).mono ?_); (rintro e w5 ⟨v5, rfl, hR5, k5⟩); have X5 := Lib.hid (X.out.next k5); have I5 := Lib.hid (I2.out.next k5); clear k5 c0 c1 c2; simp only [])
        | go_values | go_skip | go_guarded | go_step | go_upon | go_back)
      obtain ⟨lr, hown, hlr, hrk⟩ := hR5
      have HLR := Lib.hid hlr
      have HRK := Lib.hid hrk
      obtain ⟨r1, hr1⟩ : ∃ r, lr[0]? = some r := ⟨_, List.getElem?_eq_getElem (by rw [hlr, HN0.out]; exact hne)⟩
      obtain ⟨gr, cr, rfl, -, hgr5, -, -⟩ := rws_cells hown rfl hr1
      have HOW := Lib.hid hown
      have hlr0 : lr.length = n0 := by rw [hlr, HN0.out]
      simp only [hlr0]
      clear hown hlr hrk hr1 X I2
      go_loopw [11] (fun vi wr => ∃ j : Nat, vi = .int .i64 (j : Int) ∧ j ≤ n ∧ Below w5.heap.size w5 wr) (fun vi _ => n - (intOf vi).toNat)
      case atStart => exact ⟨0, rfl, Nat.zero_le _, Below.refl _ _⟩
      case round =>
        obtain ⟨j, rfl, hj, hk⟩ := hrel
        have X := Lib.hid (X5.out.next hk)
        have K5 := Lib.hid hk
        clear hk
        obtain ⟨c0, c1, c2⟩ := cel3 X.out.blk
        by_cases hjn : j < n
        · have hjn' : (j : Int) < (n : Int) := by omega
          obtain ⟨t, ht⟩ : ∃ t, l[j]? = some t := ⟨_, List.getElem?_eq_getElem (by rw [HN.out]; exact hjn)⟩
          obtain ⟨L2, off2, hAz, hL2, hc⟩ := (I.out.next X.out.bel) j t ht
          obtain ⟨QA, hAT, hQ⟩ := AT.out t
          have AQ := Lib.hid hAT
          have HQ := Lib.hid hQ
          have lt0 := X.out.lt
          subst hAz
          clear ht hAT hQ
          repeat (first | go_values | go_skip | go_guarded | go_step | go_upon | go_back)
          go_cut [12, 13] from 73 to 193 (fun va vb wx => ∃ G p1 p2 p3 e0, va = .pointer (some ⟨G, 0, none⟩) ∧ vb = .int .i64 e0 ∧ QA p1 p2 p3 e0 ∧ wx.heap[G]? = some (.cells #[.int .i64 p1, .bool p2, .string ⟨p3.toArray⟩] 41 (0, 0)) ∧ Below wr.heap.size wr wx)
          case first =>
            have d0 := bel_cell c0
            have d1 := bel_cell c1
            have d2 := bel_cell c2
            have d3 := bel_cell hc
            have SK := Lib.hid (fun (w' : World) (k : Below wr.heap.size wr w') => (⟨(k.cell (p := ⟨w.heap.size, 0, none⟩) lt0).trans c0, (k.cell (p := ⟨w.heap.size, 1, none⟩) lt0).trans c1, (k.cell (p := ⟨w.heap.size, 2, none⟩) lt0).trans c2, (k.cell (p := ⟨L2, off2 + j, none⟩) hL2).trans hc⟩ : w'.cell? ⟨w.heap.size, 0, none⟩ = some (.string ⟨x.nm.toArray⟩) ∧ w'.cell? ⟨w.heap.size, 1, none⟩ = some (.slice x.az n0 x.cz) ∧ w'.cell? ⟨w.heap.size, 2, none⟩ = some (.slice x.sa x.ss.length x.cs) ∧ w'.cell? ⟨L2, off2 + j, none⟩ = some (.int .i64 t)))
            have K0 := Lib.hid (Below.refl wr.heap.size wr)
            clear c0 c1 c2 hc d0 d1 d2 d3
            have KB := Lib.hid (K0.out.alloc (Nat.le_refl _) (.cells #[.int .i64 0, .bool false, .string ⟨#[]⟩] 41)).drew
            have XB := Lib.hid (bthen X.out.bel KB.out)
            have XD := Lib.hid (bthen X.out.bel K0.out.drew)
            have LB := Lib.hid ((BlkN.make (Below.refl wr.heap.size wr) #[.int .i64 0, .bool false, .string ⟨#[]⟩] 41).next (Below.refl _ (wr.alloc (.cells #[.int .i64 0, .bool false, .string ⟨#[]⟩] 41))).drew)
            go_region_held3 (fun w' => w'.cell? ⟨w.heap.size, 0, none⟩ = some (.string ⟨x.nm.toArray⟩) ∧ w'.cell? ⟨w.heap.size, 1, none⟩ = some (.slice x.az n0 x.cz) ∧ w'.cell? ⟨w.heap.size, 2, none⟩ = some (.slice x.sa x.ss.length x.cs) ∧ w'.cell? ⟨L2, off2 + j, none⟩ = some (.int .i64 t)) (first | exact SK.out _ (Below.refl _ wr) | exact SK.out _ (Below.refl _ wr).drew | exact SK.out _ ((Below.refl _ wr).alloc (Nat.le_refl _) _) | exact SK.out _ ((Below.refl _ wr).alloc (Nat.le_refl _) _).drew | exact SK.out _ K6.out | exact SK.out _ (K6.out.alloc K6.out.size _) | exact SK.out _ (K6.out.setCell (Nat.le_refl _) _) | exact SK.out _ (((K6.out.setCell (Nat.le_refl _) _).setCell (Nat.le_refl _) _).setCell (Nat.le_refl _) _)) (first
              | (go_at_call 13; (refine (AQ.out _ XB.out).mono ?_); rintro r w6 ⟨p1, p2, p3, e0, rfl, hQ, k6⟩
                 have K6 := Lib.hid (KB.out.trans (k6.mono KB.out.size))
                 have L6 := Lib.hid (LB.out.next k6)
                 obtain ⟨q0, q1, q2⟩ := cel3 L6.out.blk
                 have f0 := frz (j := 0) L6.out.blk
                 have f1 := frz (j := 1) L6.out.blk
                 have f2 := frz (j := 2) L6.out.blk
                 simp only [locV])
              | (go_at_call 13; (refine (AQ.out _ XD.out).mono ?_); rintro r w6 ⟨p1, p2, p3, e0, rfl, hQ, k6⟩
                 have K6 := Lib.hid (K0.out.drew.trans k6)
                 have L6 := Lib.hid (BlkN.make K6.out #[.int .i64 0, .bool false, .string ⟨#[]⟩] 41)
                 obtain ⟨q0, q1, q2⟩ := cel3 L6.out.blk
                 have f0 := frz (j := 0) L6.out.blk
                 have f1 := frz (j := 1) L6.out.blk
                 have f2 := frz (j := 2) L6.out.blk
                 simp only [locV]))
            all_goals
              repeat (first | go_values | go_skip | go_guarded | go_step | go_upon | go_back)
              go_meet
              case rel => first | exact ⟨_, p1, p2, p3, e0, rfl, rfl, hQ, L6.out.set3.blk, L6.out.set3.bel⟩ | exact ⟨_, p1, p2, p3, e0, rfl, rfl, hQ, (BlkN.make K6.out #[.int .i64 p1, .bool p2, .string ⟨p3.toArray⟩] 41).blk, (BlkN.make K6.out #[.int .i64 p1, .bool p2, .string ⟨p3.toArray⟩] 41).bel⟩
          case rest =>
            obtain ⟨G, p1, p2, p3, e0, rfl, rfl, hq, hG, kG⟩ := hcut
            generalize wc = W3 at *
            have X3 := Lib.hid (X.out.next kG)
            have K3 := Lib.hid (bthen K5.out kG)
            have hct := (kG.cell (p := ⟨L2, off2 + j, none⟩) hL2).trans hc
            have hLt := Nat.lt_of_lt_of_le hL2 kG.size
            have HG := Lib.hid hG
            clear c0 c1 c2 kG hG lt0 X K5 AQ hc hL2
            rcases HQ.out with ⟨hf, h⟩ | ⟨hf, hnr⟩ | ⟨hnr, k, e, q1, q2, q3, hz, h⟩
            · obtain ⟨rfl, rfl, rfl, rfl⟩ := h _ _ _ _ hq
              obtain ⟨a0, a1, a2⟩ := cel3 HG.out
              have V : t < -2199023255552 ∨ (¬ t < -2199023255552 ∧ t > 2199023255552) := by unfold FrT at hf; omega
              clear h hf HQ hq
              rcases V with h5 | ⟨h5, h6⟩
              all_goals
                repeat (first | go_values | go_skip | go_guarded | go_step | go_upon | go_back)
                exact ⟨⟨j + 1, by simp, by omega, K3.out⟩, by simp [intOf]; omega⟩
            · have h5 : ¬ t < -2199023255552 := by unfold FrT at hf; omega
              have h6 : ¬ t > 2199023255552 := by unfold FrT at hf; omega
              have NR := Lib.hid (fun W => near_is t false W (Lib.hid (.inr ⟨rfl, hnr⟩)))
              clear HQ hf hnr hq
              repeat (first
                | (go_at_call 14; (with_reducible refine (NR.out _).mono ?_); (rintro r wq ⟨rfl, kq⟩); have KQ := Lib.hid (bthen K3.out kq); clear kq; simp only [])
                | go_values | go_skip | go_guarded | go_step | go_upon | go_back)
              exact ⟨⟨j + 1, by simp, by omega, KQ.out⟩, by simp [intOf]; omega⟩
            · obtain ⟨rfl, rfl, rfl, rfl⟩ := h _ _ _ _ hq
              have h5 : ¬ t < -2199023255552 := by have := hnr.1; omega
              have h6 : ¬ t > 2199023255552 := by have := hnr.2; omega
              have NR := Lib.hid (fun W => near_is t true W (Lib.hid (.inl ⟨rfl, hnr⟩)))
              have HZ := Lib.hid hz
              clear HQ h hnr hq hz
              repeat (first
                | (go_at_call 14; (with_reducible refine (NR.out _).mono ?_); (rintro r wq ⟨rfl, kq⟩)
                   have KQ := Lib.hid (bthen K3.out kq)
                   have XQ := Lib.hid (X3.out.next kq)
                   have HGQ := Lib.hid ((kq.block G (Array.getElem?_eq_some_iff.1 HG.out).1).trans HG.out)
                   have hct2 := (kq.cell (p := ⟨L2, off2 + j, none⟩) hLt).trans hct
                   have hLt2 := Nat.lt_of_lt_of_le hLt kq.size
                   clear kq hct hLt
                   simp only [])
                | go_values | go_skip | go_guarded | go_step | go_upon | go_back)
              go_loopw [14] (fun vi wr => ∃ k' : Nat, vi = .int .i64 (k' : Int) ∧ k' ≤ i ∧ (∀ i' q, i' < k' → en[i']? = some q → q ≤ t) ∧ Below wq.heap.size wq wr) (fun vi _ => i - (intOf vi).toNat)
              case atStart => exact ⟨0, rfl, Nat.zero_le _, fun i' q h _ => absurd h (Nat.not_lt_zero _), Below.refl _ _⟩
              case round =>
                obtain ⟨k', rfl, hk1, hle, hkw⟩ := hrel
                have HLE := Lib.hid hle
                have KW := Lib.hid hkw
                have hct3 := (hkw.cell (p := ⟨L2, off2 + j, none⟩) hLt2).trans hct2
                have hLt3 := Nat.lt_of_lt_of_le hLt2 hkw.size
                clear hle hkw
                by_cases hc1 : k' < i
                · obtain ⟨q, hq⟩ : ∃ q, en[k']? = some q := ⟨_, List.getElem?_eq_getElem (by rw [HM0.out]; exact hc1)⟩
                  obtain ⟨ga, eA2, hga, ca⟩ := (I5.out.next (bthen KQ.out KW.out)) k' q hq
                  have HQQ := Lib.hid hq
                  have hci : (k' : Int) < (i : Int) := by omega
                  have q0 : decide (k' < i) = true := decide_eq_true hc1
                  have hk4 : k' ≤ 4 := by omega
                  by_cases hqt : q ≤ t
                  · have q1 : decide (q ≤ t) = true := decide_eq_true hqt
                    have NLE : Hid (∀ i' q', i' < k' + 1 → en[i']? = some q' → q' ≤ t) := Lib.hid fun i' q' h1 h2 => by
                      rcases Nat.lt_or_ge i' k' with h | h
                      · exact HLE.out i' q' h h2
                      · obtain rfl : i' = k' := by omega
                        rw [HQQ.out] at h2; cases h2; exact hqt
                    subst eA2
                    clear hq hqt
                    repeat (first | go_values | go_skip | go_guarded | go_step | go_upon | go_back)
                    go_quiet (fail)
                    repeat (first | go_values | go_skip | go_guarded | go_step | go_upon | go_back)
                    exact ⟨⟨k' + 1, by simp, by omega, NLE.out, below_drewN KW.out _⟩, by simp [intOf]; omega⟩
                  · have q1 : decide (q ≤ t) = false := decide_eq_false hqt
                    have KK : Hid (kF en t = k') := Lib.hid (kF_at HLE.out (.inr ⟨q, HQQ.out, by omega⟩))
                    subst eA2
                    clear hq hqt
                    repeat (first | go_values | go_skip | go_guarded | go_step | go_upon | go_back)
                    go_quiet (fail)
                    obtain rfl : k' = k := by have h9 := HZ.out.hk; rw [HEN.out, KK.out] at h9; exact h9
                    have KD : Below wq.heap.size wq (wr.drewN nq) := below_drewN KW.out nq
                    have hct := (KD.cell (p := ⟨L2, off2 + j, none⟩) hLt2).trans hct2
                    have hL2t := Nat.lt_of_lt_of_le hLt2 KD.size
                    generalize wr.drewN nq = W6 at *
                    have K6a := Lib.hid (bthen KQ.out KD)
                    have XS := Lib.hid (XQ.out.next KD)
                    have HG6 := Lib.hid ((KD.block G (Array.getElem?_eq_some_iff.1 HGQ.out).1).trans HGQ.out)
                    obtain ⟨c0, c1, c2⟩ := cel3 XS.out.blk
                    have lt1 := XS.out.lt
                    obtain ⟨L, off, eA, hLk, x0, x1, x2, x3, x4, x5, x6, x7, x8, x9, x10, x11⟩ := era_cells (ES.out W6 XS.out.bel) HZ.out.he
                    rw [eA] at c1
                    have hkn0 : k' < n0 := by rw [← HN0.out]; exact (List.getElem?_eq_some_iff.1 HZ.out.he).1
                    have hkn : (k' : Int) < (n0 : Int) := by omega
                    obtain ⟨⟨rv, rlt⟩, hr⟩ : ∃ r, lr[k']? = some r := ⟨_, List.getElem?_eq_getElem (by rw [HLR.out, HN0.out]; exact hkn0)⟩
                    obtain ⟨g9, c9, e9, -, hg9, r0', r1'⟩ := rws_cells HOW.out rfl hr
                    obtain ⟨hpo, hrl⟩ := HRK.out k' e _ HZ.out.he hr
                    simp only at hpo hrl r0' r1'
                    subst hrl
                    injection e9 with e9a e9b e9c
                    injection e9a with e9a
                    injection e9a with e9a
                    subst e9a
                    have hgr := Nat.lt_of_lt_of_le hgr5 K6a.out.size
                    have r0 := (K6a.out.cell (p := ⟨gr, k' * 2, none⟩) hgr5).trans r0'
                    have r1 := (K6a.out.cell (p := ⟨gr, k' * 2 + 1, none⟩) hgr5).trans r1'
                    have RW := fun W (kW : Below W6.heap.size W6 W) => HZ.out.rw W rv ((hpo.next K6a.out).next kW)
                    unfold evV cE locV at RW
                    have RW := Lib.hid RW
                    have KW6 := Lib.hid (Below.refl W6.heap.size W6)
                    clear KD hct2 hLt2 eA hr hg9 r0' r1' hpo e9b e9c
                    repeat (first | go_values | go_skip | go_guarded | go_step | go_upon | go_back)
                    go_cut [15, 16] from 73 to 193 (fun va vb wx => ∃ G, va = .pointer (some ⟨G, 0, none⟩) ∧ vb = .bool true ∧ wx.heap[G]? = some (.cells #[.int .i64 p1, .bool p2, .string ⟨p3.toArray⟩] 41 (0, 0)) ∧ Below W6.heap.size W6 wx)
                    case first =>
                      have d0 := bel_cell c1
                      have d1 := bel_cell x0
                      have d2 := bel_cell x1
                      have d3 := bel_cell x2
                      have d4 := bel_cell x3
                      have d5 := bel_cell x4
                      have d6 := bel_cell x5
                      have d7 := bel_cell x6
                      have d8 := bel_cell x7
                      have d9 := bel_cell x8
                      have d10 := bel_cell x9
                      have d11 := bel_cell x10
                      have d12 := bel_cell x11
                      have d13 := bel_cell r0
                      have d14 := bel_cell r1
                      have d15 := bel_cell hct
                      have SK := Lib.hid (fun (w' : World) (k : Below W6.heap.size W6 w') => (⟨(k.cell (p := ⟨w.heap.size, 1, none⟩) lt1).trans c1, (k.cell (p := ⟨L, off + k' * 12, none⟩) hLk).trans x0, (k.cell (p := ⟨L, off + k' * 12 + 1, none⟩) hLk).trans x1, (k.cell (p := ⟨L, off + k' * 12 + 2, none⟩) hLk).trans x2, (k.cell (p := ⟨L, off + k' * 12 + 3, none⟩) hLk).trans x3, (k.cell (p := ⟨L, off + k' * 12 + 4, none⟩) hLk).trans x4, (k.cell (p := ⟨L, off + k' * 12 + 5, none⟩) hLk).trans x5, (k.cell (p := ⟨L, off + k' * 12 + 6, none⟩) hLk).trans x6, (k.cell (p := ⟨L, off + k' * 12 + 7, none⟩) hLk).trans x7, (k.cell (p := ⟨L, off + k' * 12 + 8, none⟩) hLk).trans x8, (k.cell (p := ⟨L, off + k' * 12 + 9, none⟩) hLk).trans x9, (k.cell (p := ⟨L, off + k' * 12 + 10, none⟩) hLk).trans x10, (k.cell (p := ⟨L, off + k' * 12 + 11, none⟩) hLk).trans x11, (k.cell (p := ⟨gr, k' * 2, none⟩) hgr).trans r0, (k.cell (p := ⟨gr, k' * 2 + 1, none⟩) hgr).trans r1, (k.cell (p := ⟨L2, off2 + j, none⟩) hL2t).trans hct⟩ : w'.cell? ⟨w.heap.size, 1, none⟩ = some (.slice (some ⟨L, off, none⟩) n0 x.cz) ∧ w'.cell? ⟨L, off + k' * 12, none⟩ = some (.int .i64 e.of) ∧ w'.cell? ⟨L, off + k' * 12 + 1, none⟩ = some (.string ⟨e.rl.toArray⟩) ∧ w'.cell? ⟨L, off + k' * 12 + 2, none⟩ = some (.int .i64 e.sv) ∧ w'.cell? ⟨L, off + k' * 12 + 3, none⟩ = some (.string ⟨e.fm.toArray⟩) ∧ w'.cell? ⟨L, off + k' * 12 + 4, none⟩ = some (.bool e.en) ∧ w'.cell? ⟨L, off + k' * 12 + 5, none⟩ = some (.int .i64 e.uy) ∧ w'.cell? ⟨L, off + k' * 12 + 6, none⟩ = some (.int .i64 e.um) ∧ w'.cell? ⟨L, off + k' * 12 + 7, none⟩ = some (.int .i64 e.dk) ∧ w'.cell? ⟨L, off + k' * 12 + 8, none⟩ = some (.int .i64 e.dw) ∧ w'.cell? ⟨L, off + k' * 12 + 9, none⟩ = some (.int .i64 e.dn) ∧ w'.cell? ⟨L, off + k' * 12 + 10, none⟩ = some (.int .i64 e.sc) ∧ w'.cell? ⟨L, off + k' * 12 + 11, none⟩ = some (.int .i64 e.ck) ∧ w'.cell? ⟨gr, k' * 2, none⟩ = some (rv) ∧ w'.cell? ⟨gr, k' * 2 + 1, none⟩ = some (.string ⟨(ltR x e).toArray⟩) ∧ w'.cell? ⟨L2, off2 + j, none⟩ = some (.int .i64 t)))
                      have K0 := Lib.hid (Below.refl W6.heap.size W6)
                      clear c1 x0 x1 x2 x3 x4 x5 x6 x7 x8 x9 x10 x11 r0 r1 hct d0 d1 d2 d3 d4 d5 d6 d7 d8 d9 d10 d11 d12 d13 d14 d15
                      have KB := Lib.hid (K0.out.alloc (Nat.le_refl _) (.cells #[.int .i64 0, .bool false, .string ⟨#[]⟩] 41)).drew
                      have XB := Lib.hid (bthen KW6.out KB.out)
                      have XD := Lib.hid (bthen KW6.out K0.out.drew)
                      have LB := Lib.hid ((BlkN.make (Below.refl W6.heap.size W6) #[.int .i64 0, .bool false, .string ⟨#[]⟩] 41).next (Below.refl _ (W6.alloc (.cells #[.int .i64 0, .bool false, .string ⟨#[]⟩] 41))).drew)
                      go_region_held3 (fun w' => w'.cell? ⟨w.heap.size, 1, none⟩ = some (.slice (some ⟨L, off, none⟩) n0 x.cz) ∧ w'.cell? ⟨L, off + k' * 12, none⟩ = some (.int .i64 e.of) ∧ w'.cell? ⟨L, off + k' * 12 + 1, none⟩ = some (.string ⟨e.rl.toArray⟩) ∧ w'.cell? ⟨L, off + k' * 12 + 2, none⟩ = some (.int .i64 e.sv) ∧ w'.cell? ⟨L, off + k' * 12 + 3, none⟩ = some (.string ⟨e.fm.toArray⟩) ∧ w'.cell? ⟨L, off + k' * 12 + 4, none⟩ = some (.bool e.en) ∧ w'.cell? ⟨L, off + k' * 12 + 5, none⟩ = some (.int .i64 e.uy) ∧ w'.cell? ⟨L, off + k' * 12 + 6, none⟩ = some (.int .i64 e.um) ∧ w'.cell? ⟨L, off + k' * 12 + 7, none⟩ = some (.int .i64 e.dk) ∧ w'.cell? ⟨L, off + k' * 12 + 8, none⟩ = some (.int .i64 e.dw) ∧ w'.cell? ⟨L, off + k' * 12 + 9, none⟩ = some (.int .i64 e.dn) ∧ w'.cell? ⟨L, off + k' * 12 + 10, none⟩ = some (.int .i64 e.sc) ∧ w'.cell? ⟨L, off + k' * 12 + 11, none⟩ = some (.int .i64 e.ck) ∧ w'.cell? ⟨gr, k' * 2, none⟩ = some (rv) ∧ w'.cell? ⟨gr, k' * 2 + 1, none⟩ = some (.string ⟨(ltR x e).toArray⟩) ∧ w'.cell? ⟨L2, off2 + j, none⟩ = some (.int .i64 t)) (first | exact SK.out _ (Below.refl _ W6) | exact SK.out _ (Below.refl _ W6).drew | exact SK.out _ ((Below.refl _ W6).alloc (Nat.le_refl _) _) | exact SK.out _ ((Below.refl _ W6).alloc (Nat.le_refl _) _).drew | exact SK.out _ K6.out | exact SK.out _ (K6.out.alloc K6.out.size _) | exact SK.out _ (K6.out.setCell (Nat.le_refl _) _) | exact SK.out _ (((K6.out.setCell (Nat.le_refl _) _).setCell (Nat.le_refl _) _).setCell (Nat.le_refl _) _)) (first
                        | (go_at_call 15; (with_reducible refine (RW.out _ XB.out).mono ?_); rintro r w6 ⟨rfl, k6⟩
                           have K6 := Lib.hid (KB.out.trans (k6.mono KB.out.size))
                           have L6 := Lib.hid (LB.out.next k6)
                           obtain ⟨q0, q1, q2⟩ := cel3 L6.out.blk
                           have f0 := frz (j := 0) L6.out.blk
                           have f1 := frz (j := 1) L6.out.blk
                           have f2 := frz (j := 2) L6.out.blk
                           simp only [])
                        | (go_at_call 15; (with_reducible refine (RW.out _ XD.out).mono ?_); rintro r w6 ⟨rfl, k6⟩
                           have K6 := Lib.hid (K0.out.drew.trans k6)
                           have L6 := Lib.hid (BlkN.make K6.out #[.int .i64 0, .bool false, .string ⟨#[]⟩] 41)
                           obtain ⟨q0, q1, q2⟩ := cel3 L6.out.blk
                           have f0 := frz (j := 0) L6.out.blk
                           have f1 := frz (j := 1) L6.out.blk
                           have f2 := frz (j := 2) L6.out.blk
                           simp only []))
                      all_goals
                        repeat (first | go_values | go_skip | go_guarded | go_step | go_upon | go_back)
                        go_meet
                        case rel => first | exact ⟨_, rfl, rfl, L6.out.set3.blk, L6.out.set3.bel⟩ | exact ⟨_, rfl, rfl, (BlkN.make K6.out #[.int .i64 p1, .bool p2, .string ⟨p3.toArray⟩] 41).blk, (BlkN.make K6.out #[.int .i64 p1, .bool p2, .string ⟨p3.toArray⟩] 41).bel⟩
                    case rest =>
                      obtain ⟨G', rfl, rfl, hG', kG⟩ := hcut
                      generalize wc = W7 at *
                      have K7 := Lib.hid (bthen K6a.out kG)
                      have I7 := Lib.hid (I5.out.next K7.out)
                      have ERk := ER.out (some ⟨ga, 0, none⟩) c2' t W7 I7.out
                      rw [KK.out] at ERk
                      have ERk := Lib.hid ERk
                      have HG7 := Lib.hid ((kG.block G (Array.getElem?_eq_some_iff.1 HG6.out).1).trans HG6.out)
                      have HH7 := Lib.hid hG'
                      have hct7 := (kG.cell (p := ⟨L2, off2 + j, none⟩) hL2t).trans hct
                      clear c0 c1 c2 x0 x1 x2 x3 x4 x5 x6 x7 x8 x9 x10 x11 r0 r1 hct kG hG' lt1 hLk hgr
                      repeat (first
                        | (go_at_call 16; refine ERk.out.mono ?_; rintro r w8 ⟨rfl, k8⟩
                           have K8 := Lib.hid (bthen K7.out k8)
                           obtain ⟨a0, a1, a2⟩ := cel3 ((k8.block G (Array.getElem?_eq_some_iff.1 HG7.out).1).trans HG7.out)
                           obtain ⟨b0, b1, b2⟩ := cel3 ((k8.block G' (Array.getElem?_eq_some_iff.1 HH7.out).1).trans HH7.out)
                           clear k8
                           simp only [])
                        | go_values | go_skip | go_guarded | go_step | go_upon | go_back)
                      exact ⟨⟨j + 1, by simp, by omega, K8.out⟩, by simp [intOf]; omega⟩
                · obtain rfl : k' = i := by omega
                  have KK : Hid (kF en t = k') := Lib.hid (kF_at HLE.out (.inl HM0.out.symm))
                  have q0 : decide (k' < k') = false := decide_eq_false (Nat.lt_irrefl _)
                  have hci : ¬ (k' : Int) < (k' : Int) := by omega
                  repeat (first | go_values | go_skip | go_guarded | go_step | go_upon | go_back)
                  go_quiet (fail)
                  obtain rfl : k' = k := by have h9 := HZ.out.hk; rw [HEN.out, KK.out] at h9; exact h9
                  have KD : Below wq.heap.size wq (wr.drewN nq) := below_drewN KW.out nq
                  have hct := (KD.cell (p := ⟨L2, off2 + j, none⟩) hLt2).trans hct2
                  have hL2t := Nat.lt_of_lt_of_le hLt2 KD.size
                  generalize wr.drewN nq = W6 at *
                  have K6a := Lib.hid (bthen KQ.out KD)
                  have XS := Lib.hid (XQ.out.next KD)
                  have HG6 := Lib.hid ((KD.block G (Array.getElem?_eq_some_iff.1 HGQ.out).1).trans HGQ.out)
                  obtain ⟨c0, c1, c2⟩ := cel3 XS.out.blk
                  have lt1 := XS.out.lt
                  obtain ⟨L, off, eA, hLk, x0, x1, x2, x3, x4, x5, x6, x7, x8, x9, x10, x11⟩ := era_cells (ES.out W6 XS.out.bel) HZ.out.he
                  rw [eA] at c1
                  have hkn0 : k' < n0 := by rw [← HN0.out]; exact (List.getElem?_eq_some_iff.1 HZ.out.he).1
                  have hkn : (k' : Int) < (n0 : Int) := by omega
                  obtain ⟨⟨rv, rlt⟩, hr⟩ : ∃ r, lr[k']? = some r := ⟨_, List.getElem?_eq_getElem (by rw [HLR.out, HN0.out]; exact hkn0)⟩
                  obtain ⟨g9, c9, e9, -, hg9, r0', r1'⟩ := rws_cells HOW.out rfl hr
                  obtain ⟨hpo, hrl⟩ := HRK.out k' e _ HZ.out.he hr
                  simp only at hpo hrl r0' r1'
                  subst hrl
                  injection e9 with e9a e9b e9c
                  injection e9a with e9a
                  injection e9a with e9a
                  subst e9a
                  have hgr := Nat.lt_of_lt_of_le hgr5 K6a.out.size
                  have r0 := (K6a.out.cell (p := ⟨gr, k' * 2, none⟩) hgr5).trans r0'
                  have r1 := (K6a.out.cell (p := ⟨gr, k' * 2 + 1, none⟩) hgr5).trans r1'
                  have RW := fun W (kW : Below W6.heap.size W6 W) => HZ.out.rw W rv ((hpo.next K6a.out).next kW)
                  unfold evV cE locV at RW
                  have RW := Lib.hid RW
                  have KW6 := Lib.hid (Below.refl W6.heap.size W6)
                  clear KD hct2 hLt2 eA hr hg9 r0' r1' hpo e9b e9c
                  repeat (first | go_values | go_skip | go_guarded | go_step | go_upon | go_back)
                  go_cut [15, 16] from 73 to 193 (fun va vb wx => ∃ G, va = .pointer (some ⟨G, 0, none⟩) ∧ vb = .bool true ∧ wx.heap[G]? = some (.cells #[.int .i64 p1, .bool p2, .string ⟨p3.toArray⟩] 41 (0, 0)) ∧ Below W6.heap.size W6 wx)
                  case first =>
                    have d0 := bel_cell c1
                    have d1 := bel_cell x0
                    have d2 := bel_cell x1
                    have d3 := bel_cell x2
                    have d4 := bel_cell x3
                    have d5 := bel_cell x4
                    have d6 := bel_cell x5
                    have d7 := bel_cell x6
                    have d8 := bel_cell x7
                    have d9 := bel_cell x8
                    have d10 := bel_cell x9
                    have d11 := bel_cell x10
                    have d12 := bel_cell x11
                    have d13 := bel_cell r0
                    have d14 := bel_cell r1
                    have d15 := bel_cell hct
                    have SK := Lib.hid (fun (w' : World) (k : Below W6.heap.size W6 w') => (⟨(k.cell (p := ⟨w.heap.size, 1, none⟩) lt1).trans c1, (k.cell (p := ⟨L, off + k' * 12, none⟩) hLk).trans x0, (k.cell (p := ⟨L, off + k' * 12 + 1, none⟩) hLk).trans x1, (k.cell (p := ⟨L, off + k' * 12 + 2, none⟩) hLk).trans x2, (k.cell (p := ⟨L, off + k' * 12 + 3, none⟩) hLk).trans x3, (k.cell (p := ⟨L, off + k' * 12 + 4, none⟩) hLk).trans x4, (k.cell (p := ⟨L, off + k' * 12 + 5, none⟩) hLk).trans x5, (k.cell (p := ⟨L, off + k' * 12 + 6, none⟩) hLk).trans x6, (k.cell (p := ⟨L, off + k' * 12 + 7, none⟩) hLk).trans x7, (k.cell (p := ⟨L, off + k' * 12 + 8, none⟩) hLk).trans x8, (k.cell (p := ⟨L, off + k' * 12 + 9, none⟩) hLk).trans x9, (k.cell (p := ⟨L, off + k' * 12 + 10, none⟩) hLk).trans x10, (k.cell (p := ⟨L, off + k' * 12 + 11, none⟩) hLk).trans x11, (k.cell (p := ⟨gr, k' * 2, none⟩) hgr).trans r0, (k.cell (p := ⟨gr, k' * 2 + 1, none⟩) hgr).trans r1, (k.cell (p := ⟨L2, off2 + j, none⟩) hL2t).trans hct⟩ : w'.cell? ⟨w.heap.size, 1, none⟩ = some (.slice (some ⟨L, off, none⟩) n0 x.cz) ∧ w'.cell? ⟨L, off + k' * 12, none⟩ = some (.int .i64 e.of) ∧ w'.cell? ⟨L, off + k' * 12 + 1, none⟩ = some (.string ⟨e.rl.toArray⟩) ∧ w'.cell? ⟨L, off + k' * 12 + 2, none⟩ = some (.int .i64 e.sv) ∧ w'.cell? ⟨L, off + k' * 12 + 3, none⟩ = some (.string ⟨e.fm.toArray⟩) ∧ w'.cell? ⟨L, off + k' * 12 + 4, none⟩ = some (.bool e.en) ∧ w'.cell? ⟨L, off + k' * 12 + 5, none⟩ = some (.int .i64 e.uy) ∧ w'.cell? ⟨L, off + k' * 12 + 6, none⟩ = some (.int .i64 e.um) ∧ w'.cell? ⟨L, off + k' * 12 + 7, none⟩ = some (.int .i64 e.dk) ∧ w'.cell? ⟨L, off + k' * 12 + 8, none⟩ = some (.int .i64 e.dw) ∧ w'.cell? ⟨L, off + k' * 12 + 9, none⟩ = some (.int .i64 e.dn) ∧ w'.cell? ⟨L, off + k' * 12 + 10, none⟩ = some (.int .i64 e.sc) ∧ w'.cell? ⟨L, off + k' * 12 + 11, none⟩ = some (.int .i64 e.ck) ∧ w'.cell? ⟨gr, k' * 2, none⟩ = some (rv) ∧ w'.cell? ⟨gr, k' * 2 + 1, none⟩ = some (.string ⟨(ltR x e).toArray⟩) ∧ w'.cell? ⟨L2, off2 + j, none⟩ = some (.int .i64 t)))
                    have K0 := Lib.hid (Below.refl W6.heap.size W6)
                    clear c1 x0 x1 x2 x3 x4 x5 x6 x7 x8 x9 x10 x11 r0 r1 hct d0 d1 d2 d3 d4 d5 d6 d7 d8 d9 d10 d11 d12 d13 d14 d15
                    have KB := Lib.hid (K0.out.alloc (Nat.le_refl _) (.cells #[.int .i64 0, .bool false, .string ⟨#[]⟩] 41)).drew
                    have XB := Lib.hid (bthen KW6.out KB.out)
                    have XD := Lib.hid (bthen KW6.out K0.out.drew)
                    have LB := Lib.hid ((BlkN.make (Below.refl W6.heap.size W6) #[.int .i64 0, .bool false, .string ⟨#[]⟩] 41).next (Below.refl _ (W6.alloc (.cells #[.int .i64 0, .bool false, .string ⟨#[]⟩] 41))).drew)
                    go_region_held3 (fun w' => w'.cell? ⟨w.heap.size, 1, none⟩ = some (.slice (some ⟨L, off, none⟩) n0 x.cz) ∧ w'.cell? ⟨L, off + k' * 12, none⟩ = some (.int .i64 e.of) ∧ w'.cell? ⟨L, off + k' * 12 + 1, none⟩ = some (.string ⟨e.rl.toArray⟩) ∧ w'.cell? ⟨L, off + k' * 12 + 2, none⟩ = some (.int .i64 e.sv) ∧ w'.cell? ⟨L, off + k' * 12 + 3, none⟩ = some (.string ⟨e.fm.toArray⟩) ∧ w'.cell? ⟨L, off + k' * 12 + 4, none⟩ = some (.bool e.en) ∧ w'.cell? ⟨L, off + k' * 12 + 5, none⟩ = some (.int .i64 e.uy) ∧ w'.cell? ⟨L, off + k' * 12 + 6, none⟩ = some (.int .i64 e.um) ∧ w'.cell? ⟨L, off + k' * 12 + 7, none⟩ = some (.int .i64 e.dk) ∧ w'.cell? ⟨L, off + k' * 12 + 8, none⟩ = some (.int .i64 e.dw) ∧ w'.cell? ⟨L, off + k' * 12 + 9, none⟩ = some (.int .i64 e.dn) ∧ w'.cell? ⟨L, off + k' * 12 + 10, none⟩ = some (.int .i64 e.sc) ∧ w'.cell? ⟨L, off + k' * 12 + 11, none⟩ = some (.int .i64 e.ck) ∧ w'.cell? ⟨gr, k' * 2, none⟩ = some (rv) ∧ w'.cell? ⟨gr, k' * 2 + 1, none⟩ = some (.string ⟨(ltR x e).toArray⟩) ∧ w'.cell? ⟨L2, off2 + j, none⟩ = some (.int .i64 t)) (first | exact SK.out _ (Below.refl _ W6) | exact SK.out _ (Below.refl _ W6).drew | exact SK.out _ ((Below.refl _ W6).alloc (Nat.le_refl _) _) | exact SK.out _ ((Below.refl _ W6).alloc (Nat.le_refl _) _).drew | exact SK.out _ K6.out | exact SK.out _ (K6.out.alloc K6.out.size _) | exact SK.out _ (K6.out.setCell (Nat.le_refl _) _) | exact SK.out _ (((K6.out.setCell (Nat.le_refl _) _).setCell (Nat.le_refl _) _).setCell (Nat.le_refl _) _)) (first
                      | (go_at_call 15; (with_reducible refine (RW.out _ XB.out).mono ?_); rintro r w6 ⟨rfl, k6⟩
                         have K6 := Lib.hid (KB.out.trans (k6.mono KB.out.size))
                         have L6 := Lib.hid (LB.out.next k6)
                         obtain ⟨q0, q1, q2⟩ := cel3 L6.out.blk
                         have f0 := frz (j := 0) L6.out.blk
                         have f1 := frz (j := 1) L6.out.blk
                         have f2 := frz (j := 2) L6.out.blk
                         simp only [])
                      | (go_at_call 15; (with_reducible refine (RW.out _ XD.out).mono ?_); rintro r w6 ⟨rfl, k6⟩
                         have K6 := Lib.hid (K0.out.drew.trans k6)
                         have L6 := Lib.hid (BlkN.make K6.out #[.int .i64 0, .bool false, .string ⟨#[]⟩] 41)
                         obtain ⟨q0, q1, q2⟩ := cel3 L6.out.blk
                         have f0 := frz (j := 0) L6.out.blk
                         have f1 := frz (j := 1) L6.out.blk
                         have f2 := frz (j := 2) L6.out.blk
                         simp only []))
                    all_goals
                      repeat (first | go_values | go_skip | go_guarded | go_step | go_upon | go_back)
                      go_meet
                      case rel => first | exact ⟨_, rfl, rfl, L6.out.set3.blk, L6.out.set3.bel⟩ | exact ⟨_, rfl, rfl, (BlkN.make K6.out #[.int .i64 p1, .bool p2, .string ⟨p3.toArray⟩] 41).blk, (BlkN.make K6.out #[.int .i64 p1, .bool p2, .string ⟨p3.toArray⟩] 41).bel⟩
                  case rest =>
                    obtain ⟨G', rfl, rfl, hG', kG⟩ := hcut
                    generalize wc = W7 at *
                    have K7 := Lib.hid (bthen K6a.out kG)
                    have I7 := Lib.hid (I5.out.next K7.out)
                    have ERk := ER.out A2 c2' t W7 I7.out
                    rw [KK.out] at ERk
                    have ERk := Lib.hid ERk
                    have HG7 := Lib.hid ((kG.block G (Array.getElem?_eq_some_iff.1 HG6.out).1).trans HG6.out)
                    have HH7 := Lib.hid hG'
                    have hct7 := (kG.cell (p := ⟨L2, off2 + j, none⟩) hL2t).trans hct
                    clear c0 c1 c2 x0 x1 x2 x3 x4 x5 x6 x7 x8 x9 x10 x11 r0 r1 hct kG hG' lt1 hLk hgr
                    repeat (first
                      | (go_at_call 16; refine ERk.out.mono ?_; rintro r w8 ⟨rfl, k8⟩
                         have K8 := Lib.hid (bthen K7.out k8)
                         obtain ⟨a0, a1, a2⟩ := cel3 ((k8.block G (Array.getElem?_eq_some_iff.1 HG7.out).1).trans HG7.out)
                         obtain ⟨b0, b1, b2⟩ := cel3 ((k8.block G' (Array.getElem?_eq_some_iff.1 HH7.out).1).trans HH7.out)
                         clear k8
                         simp only [])
                      | go_values | go_skip | go_guarded | go_step | go_upon | go_back)
                    exact ⟨⟨j + 1, by simp, by omega, K8.out⟩, by simp [intOf]; omega⟩
        · obtain rfl : j = n := by omega
          have hjn' : ¬ ((j : Nat) : Int) < (j : Int) := by omega
          repeat (first
            | (go_at_call 7; (with_reducible refine (AW.out _ X.out.bel).mono ?_); (rintro e w9 ⟨rfl, k9⟩); have X9 := Lib.hid (X.out.next k9); simp only [])
            | go_values | go_skip | go_guarded | go_step | go_upon | go_back)
          go_ret
          exact ⟨rfl, X9.out.bel⟩
end Go.Proofs.YtdmfgechoanmlaaGreatDoor

namespace Go.Proofs.YtdmfgechoanmlaaGreatDoor
open Go Go.RowKit Go.ChangeShapes Go.WideShapes Go.ChangeAt

set_option maxRecDepth 100000 in
theorem open_ls {H : Type} {enc : TypeId × Value → H} {W : World} {held : Bool} {r : Reach} {b0 : Nat} {v : Value} {d : DataW H} {p : List MemPlace} (hv : Value.okWide Tryz.prog W r b0 28 v) (h : DataW.Trod enc Tryz.prog W 0 (fun _ => true) held 28 v d p) :
    ∃ (l : List Int) (a : Option Addr) (cap : Nat), v = .slice a l.length cap ∧ LsAt a l W := by
  obtain ⟨l, a, cap, e, -, -, hR, -⟩ := open_structs 1 (by omega) (fun n : Int => #[.int .i64 n]) (fun _ => True) Tryz.underlying28 cInt (fun _ => rfl) (fun n cs y hl hx => by
    obtain ⟨c0, rfl⟩ : ∃ c0, cs = [c0] := by
      match cs, hl with
      | [c0], _ => exact ⟨c0, rfl⟩
    obtain ⟨i, rfl, -⟩ := Rd.int (v := c0) ⟨n, y, hx⟩
    exact ⟨i, rfl, trivial⟩) hv h
  refine ⟨l, a, cap, e, fun i n hn => ?_⟩
  obtain ⟨L, off, e1, hL, hc⟩ := hR i n hn
  have h0 := hc 0 (.int .i64 n) (by omega) rfl
  rw [Nat.mul_one, Nat.add_zero] at h0
  exact ⟨L, off, e1, hL, h0⟩
theorem zoneShows_walk (x : WV) (A : Option Addr) (c : Nat) (l : List Int) (w : World) (hA : LaidZ w) (hX : WvAt x w) (hO : WvOk x) (hL : ∀ s ∈ x.ss, ∀ r ∈ s.rs, r.lt.length ≤ 1000000000000000) (hI : LsAt A l w) :
    Calls Tryz.prog 3 #[wvV x, .slice A l.length c] w fun e w' => e = .returned (.bool true) ∧ Below w.heap.size w w' := by
  by_cases h : FewW x ∧ l.length ≤ 10
  · by_cases h0 : opE (wR x) wN (aW x) x.es = 0
    · exact zsh_in x A c l w hA hX hO h.1 hL h.2 hI h0
    · exact zsh_no x A c l w hA hX hO h.1 hL h.2 hI _ rfl h0
  · exact zsh_out x A c l w hA hX hO h
end Go.Proofs.YtdmfgechoanmlaaGreatDoor
