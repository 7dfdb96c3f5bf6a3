/- For every input the law AbbrCounts returns true, and nothing that was in memory changes. -/
import Derived.Test.YtcfmmllegaddhaaDoorAbH
namespace Go.Proofs.YtcfmmllegaddhaaDoor
open Go.RowKit

/-- A boxed pair of texts, and one of numbers. -/
structure Pc (B C : Nat) (l0 l1 : List UInt8) (o0 o1 : Int) (w : World) : Prop where
  ltB : B < w.heap.size
  ltC : C < w.heap.size
  b0 : w.cell? ⟨B, 0, none⟩ = some (.string ⟨l0.toArray⟩)
  b1 : w.cell? ⟨B, 1, none⟩ = some (.string ⟨l1.toArray⟩)
  c0 : w.cell? ⟨C, 0, none⟩ = some (.int .i64 o0)
  c1 : w.cell? ⟨C, 1, none⟩ = some (.int .i64 o1)
theorem Pc.next {B C : Nat} {l0 l1 : List UInt8} {o0 o1 : Int} {w w' : World} (h : Pc B C l0 l1 o0 o1 w) (k : Below w.heap.size w w') : Pc B C l0 l1 o0 o1 w' :=
  ⟨Nat.lt_of_lt_of_le h.ltB k.size, Nat.lt_of_lt_of_le h.ltC k.size, by rw [k.cell (p := ⟨_, _, none⟩) h.ltB]; exact h.b0, by rw [k.cell (p := ⟨_, _, none⟩) h.ltB]; exact h.b1, by rw [k.cell (p := ⟨_, _, none⟩) h.ltC]; exact h.c0, by rw [k.cell (p := ⟨_, _, none⟩) h.ltC]; exact h.c1⟩
theorem Pc.new (w : World) (l0 l1 : List UInt8) (o0 o1 : Int) (t u : TypeId) : Pc w.heap.size (w.heap.size + 1) l0 l1 o0 o1 ((w.alloc (.cells #[.string ⟨l0.toArray⟩, .string ⟨l1.toArray⟩] t)).alloc (.cells #[.int .i64 o0, .int .i64 o1] u)) := by
  have e : (w.alloc (.cells #[.string ⟨l0.toArray⟩, .string ⟨l1.toArray⟩] t)).heap.size = w.heap.size + 1 := by simp
  refine ⟨by simp; omega, by simp, by simp, by simp, ?_, ?_⟩
  · rw [← e]; simp
  · rw [← e]; simp
theorem Wc_below (w : World) (l0 l1 : List UInt8) (o0 o1 : Int) : Below w.heap.size w ((w.alloc (.cells #[.string ⟨l0.toArray⟩, .string ⟨l1.toArray⟩] 35)).alloc (.cells #[.int .i64 o0, .int .i64 o1] 41)) :=
  ((Below.refl _ _).alloc (Nat.le_refl _) _).alloc (by simp) _
theorem counts_long (f l0 l1 : List UInt8) (o0 o1 : Int) (w : World) (HA : Hid (LaidB w)) (h : 100 < f.length ∨ 100 < l0.length ∨ 100 < l1.length) :
    Calls Tryd.prog 7 #[.string ⟨f.toArray⟩, .agg #[.string ⟨l0.toArray⟩, .string ⟨l1.toArray⟩], .agg #[.int .i64 o0, .int .i64 o1]] w fun e w' => e = .returned (.bool true) ∧ Below w.heap.size w w' := by
  have HB := Lib.hid (Wc_below w l0 l1 o0 o1)
  have V : (100 : Int) < (f.length : Int) ∨ (¬ (100 : Int) < (f.length : Int) ∧ (100 : Int) < (l0.length : Int)) ∨ (¬ (100 : Int) < (f.length : Int) ∧ ¬ (100 : Int) < (l0.length : Int) ∧ (100 : Int) < (l1.length : Int)) := by omega
  clear h
  rcases V with V | ⟨V, V2⟩ | ⟨V, V2, V3⟩
  all_goals go_enter Tryd.func7, Tryd.ntmps7
  all_goals go_wp2_with (first | (go_at_call 10; refine (awake_is _ (Lib.hid (HA.out.next HB.out))).mono ?_; rintro e w1 ⟨rfl, k1⟩; simp only []))
  all_goals go_ret
  all_goals exact ⟨rfl, HB.out.trans (k1.mono HB.out.size)⟩
/-- What the law's last tests come to: k is the kind, e its error, T and x each time's name and error. -/
def CtW (k e : Int) (Ta Tb Tc Td : List UInt8) (ea eb ec ed : Int) : Prop :=
  (e = 12 ∧ ea = 12 ∧ eb = 12 ∧ ec = 12 ∧ ed = 12) ∨
  (e = 0 ∧ ((k = 0 ∧ Tb = Ta ∧ Tc = Ta ∧ Td = Ta ∧ eb = ea ∧ ec = ea ∧ ed = ea) ∨ (k = 1 ∧ Tb = Ta ∧ Td = Ta ∧ eb = ea ∧ ed = ea) ∨ (k = 2 ∧ Tc = Ta ∧ Td = Ta ∧ ec = ea ∧ ed = ea) ∨ (k = 3 ∧ Tb = Ta ∧ Tc = Ta ∧ eb = ea ∧ ec = ea)))
theorem ct_ways (f l0 l1 : List UInt8) (o0 o1 : Int) : CtW (kdV f) (kdE f) (shS f o0 false l0) (shS f o1 false l0) (shS f o0 false l1) (shS f o0 true l0) (shE f o0) (shE f o1) (shE f o0) (shE f o0) := by
  unfold CtW kdV kdE shS shE
  cases hk : kdK f with
  | none => exact .inl ⟨rfl, rfl, rfl, rfl, rfl⟩
  | some k =>
    have h3 := (fm_parts hk).1
    obtain rfl | rfl | rfl | rfl : k = 0 ∨ k = 1 ∨ k = 2 ∨ k = 3 := by omega
    · exact .inr ⟨rfl, .inl ⟨rfl, rfl, rfl, rfl, rfl, rfl, rfl⟩⟩
    · exact .inr ⟨rfl, .inr (.inl ⟨rfl, rfl, rfl, rfl, rfl⟩)⟩
    · exact .inr ⟨rfl, .inr (.inr (.inl ⟨rfl, rfl, rfl, rfl, rfl⟩))⟩
    · exact .inr ⟨rfl, .inr (.inr (.inr ⟨rfl, rfl, rfl, rfl, rfl⟩))⟩
set_option maxHeartbeats 12800000 in
theorem counts_in (f l0 l1 : List UInt8) (o0 o1 k e : Int) (Ta Tb Tc Td : List UInt8) (ea eb ec ed : Int) (w : World) (HA : Hid (LaidB w)) (hf : f.length ≤ 100) (h0 : l0.length ≤ 100) (h1 : l1.length ≤ 100)
    (KP : Hid (kdV f = k ∧ kdE f = e)) (Sa : Hid (shS f o0 false l0 = Ta ∧ shE f o0 = ea)) (Sb : Hid (shS f o1 false l0 = Tb ∧ shE f o1 = eb)) (Sc : Hid (shS f o0 false l1 = Tc ∧ shE f o0 = ec)) (Sd : Hid (shS f o0 true l0 = Td ∧ shE f o0 = ed)) (X : CtW k e Ta Tb Tc Td ea eb ec ed) :
    Calls Tryd.prog 7 #[.string ⟨f.toArray⟩, .agg #[.string ⟨l0.toArray⟩, .string ⟨l1.toArray⟩], .agg #[.int .i64 o0, .int .i64 o1]] w fun e w' => e = .returned (.bool true) ∧ Below w.heap.size w w' := by
  have K0 := Lib.hid (Wc_below w l0 l1 o0 o1)
  have P0 := Lib.hid (Pc.new w l0 l1 o0 o1 35 41)
  have HF : Hid (f.length ≤ 1000 ∧ l0.length ≤ 100 ∧ l1.length ≤ 100) := Lib.hid ⟨by omega, h0, h1⟩
  have t0 : ¬ (100 : Int) < (f.length : Int) := by omega
  have t1 : ¬ (100 : Int) < (l0.length : Int) := by omega
  have t2 : ¬ (100 : Int) < (l1.length : Int) := by omega
  clear hf h0 h1
  rcases X with ⟨rfl, rfl, rfl, rfl, rfl⟩ | ⟨rfl, ⟨rfl, rfl, rfl, rfl, rfl, rfl, rfl⟩ | ⟨rfl, rfl, rfl, rfl, rfl⟩ | ⟨rfl, rfl, rfl, rfl, rfl⟩ | ⟨rfl, rfl, rfl, rfl, rfl⟩⟩
  all_goals go_enter Tryd.func7, Tryd.ntmps7
  all_goals go_wp2_with (first
    | (go_at_call 11; refine (kind_is f _ _ _ (HA.out.next K0.out) HF.out.1 KP).mono ?_; rintro e w1 ⟨rfl, k1⟩; simp only []
       have P := Lib.hid (P0.out.next k1)
       have b0 := P.out.b0
       have c0 := P.out.c0
       have K := Lib.hid (K0.out.trans (k1.mono K0.out.size))
       clear k1 P0 KP K0)
    | (go_at_call 17; refine (show_is f l0 _ o0 _ false _ (Lib.hid (HA.out.next K.out)) (Lib.hid ⟨HF.out.1, HF.out.2.1⟩) Sa).mono ?_; rintro e w2 ⟨rfl, k2⟩; simp only []
       clear b0 c0
       have P2 := Lib.hid (P.out.next k2)
       have K2 := Lib.hid (K.out.trans (k2.mono K.out.size))
       clear k2 P K Sa
       have P := P2
       have K := K2
       have b0 := P.out.b0
       have c1 := P.out.c1
       clear P2 K2)
    | (go_at_call 17; refine (show_is f l0 _ o1 _ false _ (Lib.hid (HA.out.next K.out)) (Lib.hid ⟨HF.out.1, HF.out.2.1⟩) Sb).mono ?_; rintro e w3 ⟨rfl, k2⟩; simp only []
       clear b0 c1
       have P2 := Lib.hid (P.out.next k2)
       have K2 := Lib.hid (K.out.trans (k2.mono K.out.size))
       clear k2 P K Sb
       have P := P2
       have K := K2
       have b1 := P.out.b1
       have c0 := P.out.c0
       clear P2 K2)
    | (go_at_call 17; refine (show_is f l1 _ o0 _ false _ (Lib.hid (HA.out.next K.out)) (Lib.hid ⟨HF.out.1, HF.out.2.2⟩) Sc).mono ?_; rintro e w4 ⟨rfl, k2⟩; simp only []
       clear b1 c0
       have P2 := Lib.hid (P.out.next k2)
       have K2 := Lib.hid (K.out.trans (k2.mono K.out.size))
       clear k2 P K Sc
       have P := P2
       have K := K2
       have b0 := P.out.b0
       have c0 := P.out.c0
       clear P2 K2)
    | (go_at_call 17; refine (show_is f l0 _ o0 _ true _ (Lib.hid (HA.out.next K.out)) (Lib.hid ⟨HF.out.1, HF.out.2.1⟩) Sd).mono ?_; rintro e w5 ⟨rfl, k2⟩; simp only []
       clear b0 c0
       have K2 := Lib.hid (K.out.trans (k2.mono K.out.size))
       clear k2 P K Sd
       have K := K2
       clear K2)
    | (go_at_call 10; refine (awake_is _ (Lib.hid (HA.out.next K.out))).mono ?_; rintro e w6 ⟨rfl, k6⟩; simp only []))
  all_goals go_ret
  all_goals exact ⟨rfl, K.out.trans (k6.mono K.out.size)⟩
theorem abbrCounts_walk (f l0 l1 : List UInt8) (o0 o1 : Int) (w : World) (hA : LaidB w) :
    Calls Tryd.prog 7 #[.string ⟨f.toArray⟩, .agg #[.string ⟨l0.toArray⟩, .string ⟨l1.toArray⟩], .agg #[.int .i64 o0, .int .i64 o1]] w fun e w' => e = .returned (.bool true) ∧ Below w.heap.size w w' := by
  have HA := Lib.hid hA
  by_cases h : 100 < f.length ∨ 100 < l0.length ∨ 100 < l1.length
  · exact counts_long f l0 l1 o0 o1 w HA h
  · exact counts_in f l0 l1 o0 o1 _ _ _ _ _ _ _ _ _ _ w HA (by omega) (by omega) (by omega) (Lib.hid ⟨rfl, rfl⟩) (Lib.hid ⟨rfl, rfl⟩) (Lib.hid ⟨rfl, rfl⟩) (Lib.hid ⟨rfl, rfl⟩) (Lib.hid ⟨rfl, rfl⟩) (ct_ways f l0 l1 o0 o1)
end Go.Proofs.YtcfmmllegaddhaaDoor
