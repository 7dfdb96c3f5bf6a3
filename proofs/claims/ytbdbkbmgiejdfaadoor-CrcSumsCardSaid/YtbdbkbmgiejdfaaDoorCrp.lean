/- Plain facts on sums of bytes, stepped bit by bit, and on bits that are turned; no program is named. -/
import Derived.Lib.Hide
import Derived.Lib.BitFns
import Derived.Lib.ItoaNum
import Derived.Laws.Entries
import Derived.Test.YtbdbkbmgiejdfaaDoorWir
namespace Go.Proofs.YtbdbkbmgiejdfaaDoor
open Go

/-- A step of a sum with a bit 0. -/
def ss (c : Nat) : Nat := if c % 2 = 1 then c / 2 ^^^ 3988292384 else c / 2
theorem xor_mod2 (a b : Nat) : (a ^^^ b) % 2 = (a % 2 + b % 2) % 2 := by
  have h : (a ^^^ b) % 2 = (a % 2) ^^^ (b % 2) := Nat.xor_mod_two_pow (n := 1)
  rw [h]
  rcases Nat.mod_two_eq_zero_or_one a with h1 | h1 <;> rcases Nat.mod_two_eq_zero_or_one b with h2 | h2 <;> rw [h1, h2] <;> rfl
theorem xor_div2 (a b : Nat) : (a ^^^ b) / 2 = (a / 2) ^^^ (b / 2) := Nat.xor_div_two_pow (n := 1)
theorem ss_xor (a b : Nat) : ss (a ^^^ b) = ss a ^^^ ss b := by
  have hm := xor_mod2 a b
  have hd := xor_div2 a b
  have hl : ∀ x y z : Nat, x ^^^ (y ^^^ z) = y ^^^ (x ^^^ z) := fun x y z => by rw [← Nat.xor_assoc, Nat.xor_comm x, Nat.xor_assoc]
  rcases Nat.mod_two_eq_zero_or_one a with h1 | h1 <;> rcases Nat.mod_two_eq_zero_or_one b with h2 | h2 <;> rw [h1, h2] at hm <;> simp only [ss, h1, h2, hm, hd]
  · simp
  · simp [Nat.xor_assoc]
  · simp only [Nat.zero_ne_one, if_true, if_false]
    rw [Nat.xor_assoc, Nat.xor_comm (b / 2), ← Nat.xor_assoc]
  · simp only [if_true, if_false, Nat.reduceAdd, Nat.reduceMod, Nat.zero_ne_one]
    rw [Nat.xor_assoc, hl 3988292384, Nat.xor_self, Nat.xor_zero]
theorem ss_even (c : Nat) : ss (c * 2) = c := by unfold ss; rw [if_neg (by omega)]; omega
theorem xor_lt {a b k : Nat} (ha : a < 2 ^ k) (hb : b < 2 ^ k) : a ^^^ b < 2 ^ k := Nat.xor_lt_two_pow ha hb
theorem ss_lt {c k : Nat} (hk : 32 ≤ k) (h : c < 2 ^ (k + 1)) : ss c < 2 ^ k := by
  have h2 : c / 2 < 2 ^ k := by rw [Nat.pow_succ] at h; omega
  have h3 : 3988292384 < 2 ^ k := Nat.lt_of_lt_of_le (by decide) (Nat.pow_le_pow_right (by omega) hk)
  unfold ss
  split
  · exact xor_lt h2 h3
  · exact h2
theorem xor_zero {a b : Nat} (h : a ^^^ b = 0) : a = b := by
  have : a ^^^ b ^^^ b = b := by rw [h, Nat.zero_xor]
  rwa [Nat.xor_assoc, Nat.xor_self, Nat.xor_zero] at this
theorem ss_ne {c : Nat} (h : c < 4294967296) (h0 : c ≠ 0) : ss c ≠ 0 := by
  unfold ss
  split
  · intro e
    have h1 : c / 2 = 3988292384 := xor_zero e
    omega
  · omega

/-- A sum, stepped so many times with a bit 0. -/
def sn : Nat → Nat → Nat
  | 0, c => c
  | n + 1, c => sn n (ss c)
theorem sn_xor : ∀ n a b, sn n (a ^^^ b) = sn n a ^^^ sn n b
  | 0, _, _ => rfl
  | n + 1, a, b => by simp only [sn]; rw [ss_xor, sn_xor n]
theorem sn_add : ∀ m n c, sn (m + n) c = sn n (sn m c)
  | 0, n, c => by rw [Nat.zero_add]; rfl
  | m + 1, n, c => by rw [show m + 1 + n = (m + n) + 1 by omega]; simp only [sn]; exact sn_add m n _
theorem sn_zero : ∀ n, sn n 0 = 0
  | 0 => rfl
  | n + 1 => by simp only [sn]; rw [show ss 0 = 0 from rfl, sn_zero n]
theorem sn_up : ∀ m c, sn m (c * 2 ^ m) = c
  | 0, c => by simp [sn]
  | m + 1, c => by simp only [sn]; rw [Nat.pow_succ, ← Nat.mul_assoc, ss_even, sn_up m]
theorem sn_up_add (m n c : Nat) : sn (m + n) (c * 2 ^ m) = sn n c := by rw [sn_add, sn_up]
theorem sn_lt : ∀ {n c : Nat}, c < 4294967296 → sn n c < 4294967296
  | 0, _, h => h
  | n + 1, c, h => by simp only [sn]; exact sn_lt (n := n) (ss_lt (k := 32) (by omega) (by omega))
theorem sn_ne : ∀ {n c : Nat}, c < 4294967296 → c ≠ 0 → sn n c ≠ 0
  | 0, _, _, h0 => h0
  | n + 1, c, h, h0 => by simp only [sn]; exact sn_ne (n := n) (ss_lt (k := 32) (by omega) (by omega)) (ss_ne h h0)
theorem sn_same : ∀ (n : Nat) {k c : Nat}, 32 ≤ k → c < 2 ^ k → sn n c < 2 ^ k
  | 0, _, _, _, h => h
  | n + 1, k, c, hk, h => by simp only [sn]; exact sn_same n hk (Nat.lt_of_lt_of_le (ss_lt hk (Nat.lt_of_lt_of_le h (Nat.pow_le_pow_right (by omega) (by omega)))) (Nat.le_refl _))

/-- What four bits come to. -/
def foursL : List Nat := [0x00000000, 0x1db71064, 0x3b6e20c8, 0x26d930ac, 0x76dc4190, 0x6b6b51f4, 0x4db26158, 0x5005713c, 0xedb88320, 0xf00f9344, 0xd6d6a3e8, 0xcb61b38c, 0x9b64c2b0, 0x86d3d2d4, 0xa00ae278, 0xbdbdf21c]
theorem fours_sn : ∀ i : Fin 16, foursL.getD i.val 0 = sn 4 i.val := by decide +kernel
theorem fours_lt : ∀ i : Fin 16, foursL.getD i.val 0 < 4294967296 := by decide +kernel
theorem low_up (a v k : Nat) (h : a < 2 ^ k) : v * 2 ^ k + a = (v * 2 ^ k) ^^^ a := by
  apply Nat.eq_of_testBit_eq
  intro j
  rw [Nat.testBit_xor, Nat.mul_comm v, Nat.testBit_two_pow_mul_add v h j, Nat.testBit_two_pow_mul]
  by_cases hj : j < k
  · rw [if_pos hj]; simp [Nat.not_le.2 hj]
  · rw [if_neg hj, Nat.testBit_lt_two_pow (Nat.lt_of_lt_of_le h (Nat.pow_le_pow_right (by omega) (Nat.le_of_not_lt hj)))]; simp [Nat.le_of_not_lt hj]
theorem four_step (c : Nat) : (c / 16) ^^^ foursL.getD (c % 16) 0 = sn 4 c := by
  have h := fours_sn ⟨c % 16, by omega⟩
  simp only [] at h
  have e : c = (c / 16 * 2 ^ 4) ^^^ (c % 16) := by rw [← low_up _ _ 4 (by omega)]; omega
  rw [h]
  conv => rhs; rw [e, sn_xor, sn_up]

/-- Bytes as one number, the first one lowest. -/
def vb : List UInt8 → Nat
  | [] => 0
  | b :: l => vb l * 2 ^ 8 + b.toNat
theorem vb_app (l m : List UInt8) : vb (l ++ m) = vb m * 2 ^ (8 * l.length) + vb l := by
  induction l with
  | nil => simp [vb]
  | cons b l ih =>
    simp only [List.cons_append, vb, List.length_cons]
    rw [ih, Nat.add_mul, Nat.mul_assoc, ← Nat.pow_add, show 8 * l.length + 8 = 8 * (l.length + 1) by omega]
    omega
theorem vb_lt (l : List UInt8) : vb l < 2 ^ (8 * l.length) := by
  induction l with
  | nil => simp [vb]
  | cons b l ih =>
    have := b.toNat_lt
    simp only [vb, List.length_cons]
    rw [show 8 * (l.length + 1) = 8 * l.length + 8 by omega, Nat.pow_add]
    have h2 : (vb l + 1) * 2 ^ 8 ≤ 2 ^ (8 * l.length) * 2 ^ 8 := Nat.mul_le_mul_right _ ih
    omega

/-- A sum, stepped with bytes. -/
def fo (c : Nat) (l : List UInt8) : Nat := l.foldl (fun c b => sn 8 (c ^^^ b.toNat)) c
theorem fo_nil (c : Nat) : fo c [] = c := rfl
theorem fo_cons (c : Nat) (b : UInt8) (l : List UInt8) : fo c (b :: l) = fo (sn 8 (c ^^^ b.toNat)) l := rfl
theorem fo_app (c : Nat) (l m : List UInt8) : fo c (l ++ m) = fo (fo c l) m := by simp [fo, List.foldl_append]
theorem fo_snoc (c : Nat) (l : List UInt8) (b : UInt8) : fo c (l ++ [b]) = sn 8 (fo c l ^^^ b.toNat) := by rw [fo_app]; rfl
theorem fo_lt : ∀ (l : List UInt8) {c : Nat}, c < 4294967296 → fo c l < 4294967296
  | [], _, h => h
  | b :: l, c, h => by
    rw [fo_cons]
    refine fo_lt l (sn_lt ?_)
    exact xor_lt (k := 32) h (Nat.lt_trans b.toNat_lt (by decide))
theorem fo_sn (l : List UInt8) : ∀ c, fo c l = sn (8 * l.length) (c ^^^ vb l) := by
  induction l with
  | nil => intro c; simp [fo, vb, sn]
  | cons b l ih =>
    intro c
    have hb : b.toNat < 2 ^ 8 := b.toNat_lt
    rw [fo_cons, ih, show 8 * (b :: l).length = 8 + 8 * l.length by simp; omega, sn_add, vb, low_up _ _ 8 hb]
    congr 1
    rw [Nat.xor_comm (vb l * 2 ^ 8), ← Nat.xor_assoc, sn_xor 8 (c ^^^ b.toNat), sn_up]
/-- The sum of bytes. -/
def su (l : List UInt8) : Nat := fo 4294967295 l ^^^ 4294967295
theorem su_lt (l : List UInt8) : su l < 4294967296 := xor_lt (k := 32) (fo_lt l (by decide)) (by decide)
theorem rest_xor {c : Nat} (h : c < 4294967296) : 4294967295 - c = c ^^^ 4294967295 := by
  apply Nat.eq_of_testBit_eq
  intro j
  rw [Nat.testBit_xor, show (4294967295 : Nat) = 2 ^ 32 - 1 by decide, Nat.testBit_two_pow_sub_one, show 2 ^ 32 - 1 - c = 2 ^ 32 - (c + 1) by omega, Nat.testBit_two_pow_sub_succ h]
  by_cases hj : j < 32
  · simp [hj]
  · have : c.testBit j = false := Nat.testBit_lt_two_pow (Nat.lt_of_lt_of_le h (by rw [show (4294967296 : Nat) = 2 ^ 32 by decide]; exact Nat.pow_le_pow_right (by omega) (by omega)))
    simp [hj, this]
theorem su_rest (l : List UInt8) : su l = 4294967295 - fo 4294967295 l := (rest_xor (fo_lt l (by decide))).symm
theorem su_app (l m : List UInt8) : su (l ++ m) = sn (8 * m.length) (su l) ^^^ su m := by
  unfold su
  rw [fo_app, fo_sn m (fo 4294967295 l), fo_sn m 4294967295, ← Nat.xor_assoc, ← sn_xor]
  congr 2
  rw [Nat.xor_assoc, ← Nat.xor_assoc 4294967295, Nat.xor_self, Nat.zero_xor]
/-- What bits that are turned turn a sum by. -/
theorem su_diff {l m : List UInt8} {at' row : Nat} (hl : m.length = l.length) (hv : vb m = vb l ^^^ (row * 2 ^ at')) (ha : at' ≤ 8 * l.length) : su l ^^^ su m = sn (8 * l.length - at') row := by
  have e : su l ^^^ su m = fo 4294967295 l ^^^ fo 4294967295 m := by
    unfold su
    rw [Nat.xor_assoc, Nat.xor_comm (fo 4294967295 m), ← Nat.xor_assoc 4294967295, Nat.xor_self, Nat.zero_xor]
  rw [e, fo_sn, fo_sn, hl, ← sn_xor, hv]
  have e2 : 4294967295 ^^^ vb l ^^^ (4294967295 ^^^ (vb l ^^^ row * 2 ^ at')) = row * 2 ^ at' := by
    rw [← Nat.xor_assoc 4294967295, ← Nat.xor_assoc, Nat.xor_self, Nat.zero_xor]
  rw [e2]
  obtain ⟨k, hk⟩ : ∃ k, 8 * l.length = at' + k := ⟨8 * l.length - at', by omega⟩
  rw [hk, sn_up_add, show at' + k - at' = k by omega]
/-- The call's own way: it begins in the four bits that the row begins in. -/
theorem turn_steps {n at' row : Nat} (h : at' < 8 * n) : sn (4 * (2 * n - at' / 4)) (row * 2 ^ (at' % 4)) = sn (8 * n - at') row := by
  rw [show 4 * (2 * n - at' / 4) = at' % 4 + (8 * n - at') by omega, sn_up_add]

/-- One bit behind the other. -/
def fb (c : Nat) (l : List Nat) : Nat := l.foldl (fun c b => ss (c ^^^ b)) c
theorem fb_snoc (c : Nat) (l : List Nat) (b : Nat) : fb c (l ++ [b]) = ss (fb c l ^^^ b) := by simp [fb, List.foldl_append]
theorem fb_app (c : Nat) (l m : List Nat) : fb c (l ++ m) = fb (fb c l) m := by simp [fb, List.foldl_append]
theorem fb_bt : ∀ k n c, n < 2 ^ k → fb c (bt k n) = sn k (c ^^^ n)
  | 0, n, c, h => by obtain rfl : n = 0 := by omega
                     simp [bt, fb, sn]
  | k + 1, n, c, h => by
    show fb (ss (c ^^^ n % 2)) (bt k (n / 2)) = sn k (ss (c ^^^ n))
    rw [fb_bt k (n / 2) _ (by rw [Nat.pow_succ] at h; omega)]
    congr 1
    have e : n = (n / 2 * 2 ^ 1) ^^^ (n % 2) := by rw [← low_up _ _ 1 (by omega)]; omega
    conv => rhs; rw [e, Nat.xor_comm _ (n % 2), ← Nat.xor_assoc, ss_xor, Nat.pow_one, ss_even]
theorem fb_lt : ∀ (l : List Nat) {c : Nat}, isB l → c < 4294967296 → fb c l < 4294967296
  | [], _, _, h => h
  | b :: l, c, hb, h => by
    have h1 := hb b (by simp)
    show fb (ss (c ^^^ b)) l < _
    exact fb_lt l (fun x hx => hb x (by simp [hx])) (ss_lt (k := 32) (by omega) (Nat.lt_of_lt_of_le (xor_lt (k := 32) h (by omega)) (by decide)))
/-- The bits of bytes. -/
def bsL (l : List UInt8) : List Nat := l.flatMap fun b => bt 8 b.toNat
theorem bsL_snoc (l : List UInt8) (b : UInt8) : bsL (l ++ [b]) = bsL l ++ bt 8 b.toNat := by simp [bsL]
theorem bsL_len (l : List UInt8) : (bsL l).length = 8 * l.length := by
  induction l with
  | nil => rfl
  | cons b l ih => rw [bsL, List.flatMap_cons, List.length_append, bt_len, show (List.flatMap (fun b => bt 8 b.toNat) l).length = 8 * l.length from ih, List.length_cons]; omega
theorem bsL_b (l : List UInt8) : isB (bsL l) := by
  intro x hx
  obtain ⟨b, _, hb⟩ := List.mem_flatMap.1 hx
  exact bt_b _ _ x hb
theorem fb_bsL (l : List UInt8) : ∀ c, fb c (bsL l) = fo c l := by
  induction l with
  | nil => intro c; rfl
  | cons b l ih =>
    intro c
    rw [bsL, List.flatMap_cons, fb_app, fb_bt 8 _ _ b.toNat_lt, fo_cons]
    exact ih _

/-- A byte of bytes, some bits of it turned. -/
def xs (l : List UInt8) (k x : Nat) : List UInt8 := l.set k (UInt8.ofNat ((l.getD k 0).toNat ^^^ x))
theorem xs_len (l : List UInt8) (k x : Nat) : (xs l k x).length = l.length := by simp [xs]
theorem xor_u8 (b : UInt8) {x : Nat} (hx : x < 256) : (UInt8.ofNat (b.toNat ^^^ x)).toNat = b.toNat ^^^ x := u8_of _ (xor_lt (k := 8) b.toNat_lt hx)
theorem up_xor (a b k : Nat) : (a ^^^ b) * 2 ^ k = (a * 2 ^ k) ^^^ (b * 2 ^ k) := by
  rw [← Nat.shiftLeft_eq, ← Nat.shiftLeft_eq, ← Nat.shiftLeft_eq, Nat.shiftLeft_xor_distrib]
theorem vb_xs {x : Nat} (hx : x < 256) : ∀ (l : List UInt8) (k : Nat), k < l.length → vb (xs l k x) = vb l ^^^ (x * 2 ^ (8 * k))
  | [], k, h => by simp at h
  | b :: l, 0, _ => by
    have hb : b.toNat < 2 ^ 8 := b.toNat_lt
    have h1 : b.toNat ^^^ x < 2 ^ 8 := xor_lt hb hx
    show vb l * 2 ^ 8 + (UInt8.ofNat (b.toNat ^^^ x)).toNat = (vb l * 2 ^ 8 + b.toNat) ^^^ (x * 2 ^ (8 * 0))
    rw [xor_u8 b hx, low_up _ _ 8 h1, low_up _ _ 8 hb]
    simp [Nat.xor_assoc]
  | b :: l, k + 1, h => by
    have hb : b.toNat < 2 ^ 8 := b.toNat_lt
    have ih := vb_xs hx l k (by simpa using h)
    show vb (xs l k x) * 2 ^ 8 + b.toNat = (vb l * 2 ^ 8 + b.toNat) ^^^ (x * 2 ^ (8 * (k + 1)))
    rw [ih, low_up _ _ 8 hb, low_up _ _ 8 hb, up_xor, show 8 * (k + 1) = 8 * k + 8 by omega, Nat.pow_add, ← Nat.mul_assoc, Nat.xor_assoc, Nat.xor_comm (x * 2 ^ (8 * k) * 2 ^ 8), ← Nat.xor_assoc]

/-- Bits of bytes turned, the first i of a row. -/
def tu (l : List UInt8) (at' row : Nat) : Nat → List UInt8
  | 0 => l
  | i + 1 => if row / 2 ^ i % 2 = 1 then xs (tu l at' row i) ((at' + i) / 8) (2 ^ ((at' + i) % 8)) else tu l at' row i
theorem tu_len (l : List UInt8) (at' row : Nat) : ∀ i, (tu l at' row i).length = l.length
  | 0 => rfl
  | i + 1 => by unfold tu; split; rw [xs_len, tu_len l at' row i]; exact tu_len l at' row i
theorem p2_lt (k : Nat) : 2 ^ (k % 8) < 256 := Nat.lt_of_le_of_lt (Nat.pow_le_pow_right (by omega) (show k % 8 ≤ 7 by omega)) (by decide)
theorem row_small {row i : Nat} (h : row / 2 ^ i % 2 = 1) : 2 ^ i ≤ row := by
  rcases Nat.lt_or_ge row (2 ^ i) with h1 | h1
  · rw [Nat.div_eq_of_lt h1] at h; omega
  · exact h1
theorem row_in {row at' n i : Nat} (hr : row * 2 ^ at' < 2 ^ (8 * n)) (h : row / 2 ^ i % 2 = 1) : at' + i < 8 * n := by
  have h1 := row_small h
  have h2 : 2 ^ (at' + i) < 2 ^ (8 * n) := by
    rw [Nat.pow_add, Nat.mul_comm]
    exact Nat.lt_of_le_of_lt (Nat.mul_le_mul_right _ h1) hr
  exact (Nat.pow_lt_pow_iff_right (by omega)).1 h2
theorem vb_tu {l : List UInt8} {at' row : Nat} (hr : row * 2 ^ at' < 2 ^ (8 * l.length)) : ∀ i, vb (tu l at' row i) = vb l ^^^ ((row % 2 ^ i) * 2 ^ at')
  | 0 => by simp [tu, Nat.mod_one]
  | i + 1 => by
    have ih := vb_tu (l := l) hr i
    have hm : row % 2 ^ (i + 1) = (row / 2 ^ i % 2) * 2 ^ i + row % 2 ^ i := by rw [Nat.pow_succ, Nat.mod_mul, Nat.mul_comm (2 ^ i)]; omega
    unfold tu
    by_cases h : row / 2 ^ i % 2 = 1
    · have hin := row_in hr h
      rw [if_pos h, vb_xs (p2_lt _) _ _ (by rw [tu_len]; omega), ih, hm, h, low_up _ _ i (Nat.mod_lt _ (Nat.two_pow_pos i)), Nat.one_mul, up_xor, Nat.xor_assoc, Nat.xor_comm (2 ^ i * 2 ^ at')]
      congr 2
      rw [← Nat.pow_add, ← Nat.pow_add]
      congr 1
      omega
    · have h0 : row / 2 ^ i % 2 = 0 := by omega
      rw [if_neg h, ih, hm, h0]; simp
theorem vb_tu32 {l : List UInt8} {at' row : Nat} (h32 : row < 4294967296) (hr : row * 2 ^ at' < 2 ^ (8 * l.length)) : vb (tu l at' row 32) = vb l ^^^ (row * 2 ^ at') := by
  rw [vb_tu hr, Nat.mod_eq_of_lt (show row < 2 ^ 32 by omega)]

/-- How many bits a number has. -/
theorem long_lt {n k : Nat} (hn : n < 18446744073709551616) (h : Lib.bitLen n ≤ k) : n < 2 ^ k := by
  by_cases h0 : n = 0
  · subst h0; exact Nat.two_pow_pos k
  · exact Nat.lt_of_lt_of_le (Lib.bitLenAux_bounds 64 n hn h0).2.2 (Nat.pow_le_pow_right (by omega) h)
theorem long_le {n k : Nat} (hk : k ≤ 64) (h : n < 2 ^ k) : Lib.bitLen n ≤ k := Lib.bitLen_le n k hk h
theorem long_zero : Lib.bitLen 0 = 0 := rfl
theorem long_pos {n : Nat} (hn : n < 18446744073709551616) (h0 : n ≠ 0) : 1 ≤ Lib.bitLen n := (Lib.bitLenAux_bounds 64 n hn h0).1
theorem long_half {n : Nat} (hn : n < 18446744073709551616) (h0 : n ≠ 0) : Lib.bitLen n = 1 + Lib.bitLen (n / 2) := Lib.bitLen_half n h0 hn
theorem row_fits {row at' n : Nat} (h32 : row < 4294967296) (h : at' + Lib.bitLen row ≤ 8 * n) : row * 2 ^ at' < 2 ^ (8 * n) := by
  have h1 : row < 2 ^ (8 * n - at') := long_lt (by omega) (by omega)
  have h2 : row * 2 ^ at' < 2 ^ (8 * n - at') * 2 ^ at' := Nat.mul_lt_mul_of_pos_right h1 (Nat.two_pow_pos _)
  rwa [← Nat.pow_add, show 8 * n - at' + at' = 8 * n by omega] at h2
theorem long_xor {a b k : Nat} (hk : k ≤ 64) (ha : a < 18446744073709551616) (hb : b < 18446744073709551616) (h1 : Lib.bitLen a ≤ k) (h2 : Lib.bitLen b ≤ k) : Lib.bitLen (a ^^^ b) ≤ k := long_le hk (xor_lt (long_lt ha h1) (long_lt hb h2))

/-- 'xor', 'and', of numbers of 64 bits that are not below nought. -/
theorem ofInt_nat64 (a : Nat) (h : a < 9223372036854775808) : (BitVec.ofInt 64 (a : Int)).toNat = a := by
  rw [BitVec.ofInt_natCast, BitVec.toNat_ofNat]; exact Nat.mod_eq_of_lt (by omega)
theorem xor_i64 {a b : Nat} (ha : a < 9223372036854775808) (hb : b < 9223372036854775808) : bits .xor .i64 (a : Int) (b : Int) = ((a ^^^ b : Nat) : Int) := by
  have hx : a ^^^ b < 2 ^ 63 := Nat.xor_lt_two_pow (by omega) (by omega)
  show IntKind.i64.wrap ((BitVec.ofInt 64 (a : Int) ^^^ BitVec.ofInt 64 (b : Int)).toNat : Int) = _
  rw [BitVec.toNat_xor, ofInt_nat64 a ha, ofInt_nat64 b hb]
  simp [IntKind.wrap, IntKind.bits, IntKind.signed]
  omega
theorem and15 {a : Nat} (ha : a < 9223372036854775808) : bits .and .i64 (a : Int) 15 = ((a % 16 : Nat) : Int) := by
  show IntKind.i64.wrap ((BitVec.ofInt 64 (a : Int) &&& BitVec.ofInt 64 15).toNat : Int) = _
  rw [BitVec.toNat_and, ofInt_nat64 a ha, show (BitVec.ofInt 64 15).toNat = 2 ^ 4 - 1 by decide, Nat.and_two_pow_sub_one_eq_mod]
  simp [IntKind.wrap, IntKind.bits, IntKind.signed]
  omega
theorem su_digits : su [49, 50, 51, 52, 53, 54, 55, 56, 57] = 3421780262 := by decide +kernel
end Go.Proofs.YtbdbkbmgiejdfaaDoor
