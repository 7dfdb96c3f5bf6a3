/- The contracts of words.name, MonthName and WeekdayName, and of the reference's Name: three letters of a word, the first one a capital one; nothing that was in memory changes. The tables read as they are laid. -/
import Derived.Test.YtddoapenhlkamaaGreatDoorWdE
namespace Go.Proofs.YtddoapenhlkamaaGreatDoor
open Go.RowKit

/-- Three letters of a word, the first one a capital one. -/
def capL (p : List UInt8) : List UInt8 := match p with | a :: b :: c :: _ => [a - 32, b, c] | _ => []

theorem decode_i (p : List UInt8) (i : Nat) (hi : i < p.length) (h : (p.getD i 0).toNat < 128) : Utf8.decode ⟨p.toArray⟩ i = ((p.getD i 0).toNat, 1) := by
  unfold Utf8.decode
  have e : (⟨p.toArray⟩ : ByteArray).get! i = p.getD i 0 := by
    show p.toArray[i]! = _
    simp [hi]
  simp only [Nat.add_zero, e, if_pos h]
theorem runes_ascii (p : List UInt8) (hp : ascii p) : ∀ (bound i : Nat) (acc : Array Value), p.length ≤ i + bound → Conv.runesFrom ⟨p.toArray⟩ bound i acc = acc ++ ((p.drop i).map fun c => Value.int .i32 (c.toNat : Int)).toArray
  | 0, i, acc, h => by
    rw [List.drop_eq_nil_of_le (by omega)]; simp [Conv.runesFrom]
  | bound + 1, i, acc, h => by
    unfold Conv.runesFrom
    by_cases hi : i < p.length
    · have hc : (p.getD i 0).toNat < 128 := hp _ (by simp [hi])
      rw [wsize, if_pos hi, decode_i p i hi hc]
      show Conv.runesFrom _ bound (i + 1) _ = _
      rw [runes_ascii p hp bound (i + 1) _ (by omega), List.drop_eq_getElem_cons hi, List.map_cons]
      simp [hi]
    · rw [wsize, if_neg hi, List.drop_eq_nil_of_le (by omega)]; simp

theorem encode_ascii (n : Nat) (h : n < 128) : Utf8.encode (n : Int) = ⟨#[UInt8.ofNat n]⟩ := by
  unfold Utf8.encode
  have hv : Utf8.valid (n : Int) = true := by simp [Utf8.valid]; omega
  have e : ((n : Int)).toNat = n := by omega
  simp only [hv, if_pos, e]
  rw [if_pos h]
theorem runesBytes3 (a b c : UInt8) (ha : a.toNat < 128) (hb : b.toNat < 128) (hc : c.toNat < 128) : runesBytes [(a.toNat : Int), (b.toNat : Int), (c.toNat : Int)] = ⟨[a, b, c].toArray⟩ := by
  unfold runesBytes
  simp only [List.foldl_cons, List.foldl_nil, encode_ascii _ ha, encode_ascii _ hb, encode_ascii _ hc, UInt8.ofNat_toNat]
  rfl

/-- What '[]rune(word)' leaves: the runes lie in a new block. -/
structure RunesAt (p : List UInt8) (a b c : UInt8) (cap : Nat) (w W : World) : Prop where
  conv : (convert 9 68 (.string ⟨p.toArray⟩)).run Tryz.prog w = .ok (.slice (some ⟨w.heap.size, 0, none⟩) p.length cap) W
  cap3 : 3 ≤ cap
  bel : Below w.heap.size w W
  c0 : W.cell? ⟨w.heap.size, 0, none⟩ = some (.int .i32 (a.toNat : Int))
  c1 : W.cell? ⟨w.heap.size, 1, none⟩ = some (.int .i32 (b.toNat : Int))
  c2 : W.cell? ⟨w.heap.size, 2, none⟩ = some (.int .i32 (c.toNat : Int))
  fr : W.frozen? ⟨w.heap.size, 0, none⟩ = false
theorem runes_new (a b c : UInt8) (r : List UInt8) (hl : (a :: b :: c :: r).length ≤ 1000) (hp : ascii (a :: b :: c :: r)) (w : World) : ∃ cap W, RunesAt (a :: b :: c :: r) a b c cap w W := by
  have e := runes_ascii _ hp (⟨(a :: b :: c :: r).toArray⟩ : ByteArray).size 0 #[] (by rw [wsize]; omega)
  have hsz : (Conv.runesFrom ⟨(a :: b :: c :: r).toArray⟩ (⟨(a :: b :: c :: r).toArray⟩ : ByteArray).size 0 #[]).size = (a :: b :: c :: r).length := by rw [e]; simp
  have h := run_runes_of_string (P := Tryz.prog) w 9 68 21 ⟨(a :: b :: c :: r).toArray⟩ Tryz.underlying9 Tryz.underlying68 Tryz.underlying21 (by rw [hsz]; omega)
  rw [hsz] at h
  have hc := grownCap_ge w (a :: b :: c :: r).length 0 21
  refine ⟨_, _, h, ?_, ?_, ?_, ?_, ?_, ?_⟩
  · simp only [List.length_cons] at hc ⊢; omega
  · exact (Below.refl w.heap.size w).drew.alloc (by simp) _
  · exact (World.cell?_alloc_mark w.drew _ _ _ 0).trans (by rw [e, Array.getElem?_append_left (by simp)]; simp)
  · exact (World.cell?_alloc_mark w.drew _ _ _ 1).trans (by rw [e, Array.getElem?_append_left (by simp)]; simp)
  · exact (World.cell?_alloc_mark w.drew _ _ _ 2).trans (by rw [e, Array.getElem?_append_left (by simp)]; simp)
  · exact (World.frozen?_alloc_mark w.drew _ _ 0 0 0).trans (by simp)

set_option maxHeartbeats 800000 in
theorem name_is (a b c : UInt8) (r : List UInt8) (w : World) (hl : (a :: b :: c :: r).length ≤ 1000) (hp : ascii (a :: b :: c :: r)) (ha : 97 ≤ a.toNat) :
    Calls Tryz.prog 30 #[.string ⟨(a :: b :: c :: r).toArray⟩] w fun e w' => e = .returned (.string ⟨[a - 32, b, c].toArray⟩) ∧ Below w.heap.size w w' := by
  obtain ⟨cap, W, hR⟩ := runes_new a b c r hl hp w
  have a1 : a.toNat < 128 := hp a (by simp)
  have b1 : b.toNat < 128 := hp b (by simp)
  have c1 : c.toNat < 128 := hp c (by simp)
  have ea : (a - 32).toNat = a.toNat - 32 := by
    rw [UInt8.toNat_sub]; show (256 - 32 + a.toNat) % 256 = _; omega
  have ea2 : ((a - 32).toNat : Int) = (a.toNat : Int) - 32 := by omega
  generalize (a :: b :: c :: r) = p at hR
  obtain ⟨hcv, hcap, hB, d0, d1, d2, df⟩ := hR
  have hsz := wcell_lt d0
  have hback : (convert 68 9 (.slice (some ⟨w.heap.size, 0, none⟩) 3 cap)).run Tryz.prog (W.setCell ⟨w.heap.size, 0, none⟩ (.int .i32 ((a.toNat : Int) - 32))) = .ok (.string ⟨[a - 32, b, c].toArray⟩) (W.setCell ⟨w.heap.size, 0, none⟩ (.int .i32 ((a.toNat : Int) - 32))) := by
    have h := run_convert_runes (P := Tryz.prog) (W.setCell ⟨w.heap.size, 0, none⟩ (.int .i32 ((a.toNat : Int) - 32))) 68 9 21 ⟨w.heap.size, 0, none⟩ 3 cap [((a - 32).toNat : Int), (b.toNat : Int), (c.toNat : Int)] (by simp) Tryz.underlying68 Tryz.underlying21 Tryz.underlying9 (by
      intro j hj
      rcases j with _ | _ | _ | j
      · rw [ea2]
        show World.cell? _ ⟨w.heap.size, 0, none⟩ = _
        rw [World.cell?_setCell_same _ _ _ d0]; rfl
      · show World.cell? _ ⟨w.heap.size, 1, none⟩ = _
        rw [World.cell?_setCell_other _ _ _ _ (by simp), d1]; rfl
      · show World.cell? _ ⟨w.heap.size, 2, none⟩ = _
        rw [World.cell?_setCell_other _ _ _ _ (by simp), d2]; rfl
      · simp at hj; omega)
    rw [show List.take 3 [((a - 32).toNat : Int), (b.toNat : Int), (c.toNat : Int)] = [((a - 32).toNat : Int), (b.toNat : Int), (c.toNat : Int)] from rfl, runesBytes3 _ _ _ (by omega) b1 c1] at h
    exact h
  have HB := Lib.hid hB
  clear hB b1 c1 ea ea2 hp hl
  go_enter Tryz.func30, Tryz.ntmps30
  go_wp2
  go_ret
  exact ⟨rfl, HB.out.setCell (p := ⟨w.heap.size, 0, none⟩) (Nat.le_refl _) _⟩

def nameOk (p : List UInt8) : Bool := match p with | a :: _ :: _ :: _ => decide (97 ≤ a.toNat) && p.all (fun c => decide (c.toNat < 128)) && decide (p.length ≤ 100) | _ => false
theorem name_any (p : List UInt8) (w : World) (h : nameOk p = true) :
    Calls Tryz.prog 30 #[.string ⟨p.toArray⟩] w fun e w' => e = .returned (.string ⟨(capL p).toArray⟩) ∧ Below w.heap.size w w' := by
  match p, h with
  | a :: b :: c :: r, h =>
    simp only [nameOk, Bool.and_eq_true, decide_eq_true_eq] at h
    exact name_is a b c r w (by omega) (fun x hx => by simpa using List.all_eq_true.1 h.1.2 x hx) h.1.1

def mnameL (n : Int) : List UInt8 := if 1 ≤ n ∧ n ≤ 12 then capL (monthsL.getD (n - 1).toNat []) else []
def mnameE (n : Int) : Int := if 1 ≤ n ∧ n ≤ 12 then 0 else 10
def wnameL (n : Int) : List UInt8 := if 0 ≤ n ∧ n ≤ 6 then capL (weeksL.getD n.toNat []) else []
def wnameE (n : Int) : Int := if 0 ≤ n ∧ n ≤ 6 then 0 else 10
theorem months_nm : ∀ p ∈ monthsL, nameOk p = true := List.all_eq_true.1 (by decide)
theorem weeks_nm : ∀ p ∈ weeksL, nameOk p = true := List.all_eq_true.1 (by decide)

theorem wthree_bytes (W : World) (g : Nat) (x y z : UInt8) (h0 : W.cell? ⟨g, 0, none⟩ = some (.int .u8 (x.toNat : Int))) (h1 : W.cell? ⟨g, 1, none⟩ = some (.int .u8 (y.toNat : Int))) (h2 : W.cell? ⟨g, 2, none⟩ = some (.int .u8 (z.toNat : Int))) :
    (convert 46 9 (.slice (some ⟨g, 0, none⟩) 3 3)).run Tryz.prog W = .ok (.string ⟨[x, y, z].toArray⟩) W :=
  run_convert_bytes_back _ _ _ 5 ⟨g, 0, none⟩ 3 [x, y, z] Tryz.underlying46 Tryz.underlying5 Tryz.underlying9 (fun j hj => by
    rcases j with _ | _ | _ | j
    · simpa [Addr.add] using h0
    · simpa [Addr.add] using h1
    · simpa [Addr.add] using h2
    · simp at hj; omega)

set_option maxHeartbeats 800000 in
theorem rname_any (p : List UInt8) (w : World) (h : nameOk p = true) :
    Calls Tryz.prog 19 #[.string ⟨p.toArray⟩] w fun e w' => e = .returned (.string ⟨(capL p).toArray⟩) ∧ Below w.heap.size w w' := by
  match p, h with
  | a :: b :: c :: r, h =>
    simp only [nameOk, Bool.and_eq_true, decide_eq_true_eq] at h
    obtain ⟨⟨h1, h2⟩, h3⟩ := h
    have a1 : a.toNat < 128 := by simpa using List.all_eq_true.1 h2 a (by simp)
    show Calls Tryz.prog 19 _ w fun e w' => e = .returned (.string ⟨[a - 32, b, c].toArray⟩) ∧ Below w.heap.size w w'
    have i0 : ∀ W : World, (Instr.index 9 (.string ⟨(a :: b :: c :: r).toArray⟩) (.int .i64 0)).run Tryz.prog W = .ok (.int .u8 (a.toNat : Int)) W := wbyte_at (a :: b :: c :: r) 0 (by simp) a rfl
    have i1 : ∀ W : World, (Instr.index 9 (.string ⟨(a :: b :: c :: r).toArray⟩) (.int .i64 1)).run Tryz.prog W = .ok (.int .u8 (b.toNat : Int)) W := wbyte_at (a :: b :: c :: r) 1 (by simp) b rfl
    have i2 : ∀ W : World, (Instr.index 9 (.string ⟨(a :: b :: c :: r).toArray⟩) (.int .i64 2)).run Tryz.prog W = .ok (.int .u8 (c.toNat : Int)) W := wbyte_at (a :: b :: c :: r) 2 (by simp) c rfl
    have ea : ((a - 32).toNat : Int) = (a.toNat : Int) - 97 + 65 := by
      rw [UInt8.toNat_sub]; show (((256 - 32 + a.toNat) % 256 : Nat) : Int) = _; omega
    have hcv := wthree_bytes (w.alloc (.cells #[.int .u8 ((a - 32).toNat : Int), .int .u8 (b.toNat : Int), .int .u8 (c.toNat : Int)] 5)).drew w.heap.size (a - 32) b c (by simp) (by simp) (by simp)
    rw [ea] at hcv
    generalize (a :: b :: c :: r) = p at i0 i1 i2
    clear h2 h3 ea
    go_enter Tryz.func19, Tryz.ntmps19
    go_wp2
    go_region
    go_wp2
    go_ret
    exact ⟨rfl, ((Below.refl _ _).alloc (Nat.le_refl _) _).drew⟩
end Go.Proofs.YtddoapenhlkamaaGreatDoor
