/- The contract of clock.Text's closure: it writes the digits of a number, so many at least, behind the text; nothing below the text's variable changes. -/
import Derived.Test.YtjafbopmedbhcaaDoorPrA
namespace Go.Proofs.YtjafbopmedbhcaaDoor
open Go.RowKit

theorem uint8_info : (Tryd.prog.info? 5).map (fun i => (i.zero, i.size, i.bytes)) = some (some (.int .u8 0), 1, 1) := by kernel_rfl

theorem itoa_is (n : Nat) (D : List UInt8) (w : World) (h : n < 10000000) (ht : PowAt w) (hD : Hid (Lib.decDigits n = D)) :
    Calls Tryd.prog 33 #[.int .i64 n] w fun e w' => e = .returned (.string ⟨D.toArray⟩) ∧ Below w.heap.size w w' := by
  have := itoa_any n w h ht
  rwa [hD.out] at this

theorem strCells_eq (D : List UInt8) : Lib.strCells ⟨D.toArray⟩ = bcl D := by simp [Lib.strCells, bcl]

set_option maxHeartbeats 800000 in
theorem dig_walk (n least g : Nat) (l D : List UInt8) (W : World) (hn : n < 10000000) (h2 : least ≤ 7) (hl : l.length ≤ 100) (hD1 : D.length ≤ 7) (HD : Hid (Lib.decDigits n = D)) (ht : PowAt W) (hT : TextIs g l W) :
    Calls Tryd.prog 32 #[.int .i64 n, .int .i64 least, .pointer (some ⟨g, 0, none⟩)] W fun e w' => e = .returned (.tuple #[]) ∧ TextIs g (l ++ List.replicate (least - D.length) 48 ++ D) w' ∧ Below g W w' := by
  obtain ⟨i0, hi0, hz0, hz1, hz2⟩ := info_parts uint8_info
  have HP := Lib.hid ht
  have HT := Lib.hid hT
  have hgW : g ≤ W.heap.size := by obtain ⟨A, c, h⟩ := hT; have := h.lt; omega
  clear ht hT
  go_enter Tryd.func32, Tryd.ntmps32
  go_wp2_with (go_at_call 33; refine (itoa_is _ D _ hn HP.out HD).mono ?_; rintro e w1 ⟨rfl, k1⟩)
  have HT1 := Lib.hid (HT.out.next k1)
  have HB1 := Lib.hid (k1.mono hgW)
  clear k1
  go_loopw [12] (fun i w' => ∃ k : Nat, i = .int .i64 k ∧ (k = 0 ∨ k + D.length ≤ least) ∧ TextIs g (l ++ List.replicate k 48) w' ∧ Below g W w') (fun i _ => least - (intOf i).toNat)
  case atStart => exact ⟨0, rfl, .inl rfl, by simpa using HT1.out, HB1.out⟩
  case round =>
    obtain ⟨k, rfl, k1, k2, k3⟩ := hrel
    clear HT1 HB1
    have K3 := Lib.hid k3
    clear k3
    have hL : (l ++ List.replicate k (48 : UInt8)).length = l.length + k := by simp
    have HR : Hid (l ++ List.replicate (k + 1) (48 : UInt8) = (l ++ List.replicate k 48) ++ [48]) := by
      show _ = _
      rw [List.replicate_succ', List.append_assoc]
    have HE : Hid (k = least - D.length ∨ k + D.length < least) := by show _ ∨ _; omega
    generalize hG : l ++ List.replicate k (48 : UInt8) = L at k2 hL HR
    have HG := Lib.hid hG
    clear hG
    have HL := Lib.hid hL
    have hLb : L.length ≤ 200 := by omega
    clear hL
    obtain ⟨A, c, T⟩ := k2
    have hc := T.cell
    have hf := T.frozen
    have hlt := T.lt
    by_cases hk : k + D.length < least
    · have T1 := Lib.hid (T.next ((Below.refl _ _).alloc (Nat.le_refl _) (.cells #[.int .u8 48] 5)))
      clear T
      have hk' : (k : Int) < (least : Int) - (D.length : Int) := by omega
      go_wp2_with (first
        | (at_builtin
           refine wpList_append_own_at _ (by rfl) (.tmp 14) (.tmp 15) _ (by rfl) (g + 1) 5 i0 _ 1 1 Tryd.underlying58 hi0 hz0 hz1 hz2 rfl (by omega) (.slice A L.length c) L.length (bcl L) (by rfl) T1.out.own ⟨wr.heap.size, 0, none⟩ 1 1 (bcl [48]) (by rfl) (by rfl) (by intro j u hu; rcases j with _ | j <;> simp [bcl] at hu; subst hu; simp [Addr.add]) (bcl_one _) (by simp only [maxLen]; omega) (by omega) (by simp; omega) ?_
           intro v2 w2 hown2 hg2 _ _
           obtain ⟨A2, c2, rfl⟩ := own_form hown2
           obtain ⟨p1, p2, p3, p4⟩ := T1.out.push (x := [48]) (by simpa [bcl] using hown2) hg2
           have P1 := Lib.hid p1
           have P2 := Lib.hid p2
           clear p1 p2 hown2 hg2))
      go_roundw
      case rel => exact ⟨k + 1, by go_num, by omega, by rw [HR.out]; exact P1.out, K3.out.trans (((Below.refl g wr).alloc (by omega) _).trans P2.out)⟩
      case measure => simp [intOf]; omega
    · have hk' : ¬ (k : Int) < (least : Int) - (D.length : Int) := by omega
      have hDs : (⟨D.toArray⟩ : ByteArray).size = D.length := by simp [ByteArray.size]
      have HS := Lib.hid hDs
      clear hDs
      have T1 := Lib.hid T
      clear T
      have E : Hid (l ++ List.replicate (least - D.length) (48 : UInt8) ++ D = L ++ D) := by
        show _ = _
        rcases HE.out with e | e
        · rw [← e, HG.out]
        · omega
      go_wp2_with (first
        | (at_builtin
           refine Lib.wpList_append_own_string _ (by rfl) (.tmp 18) (.tmp 19) _ _ (by rfl) (g + 1) 5 i0 Tryd.underlying58 Tryd.underlying9 hi0 hz0 hz1 hz2 (.slice A L.length c) L.length (bcl L) (by rfl) T1.out.own ⟨D.toArray⟩ (by rfl) (by rw [HS.out]; simp only [maxLen]; omega) (by rw [HS.out]; omega) (by omega) ?_
           intro v2 w2 hown2 hg2 _
           obtain ⟨p1, p2, p3, p4⟩ := T1.out.push (x := D) (by rw [HS.out, strCells_eq, ← bcl_app, ← List.length_append] at hown2; exact hown2) hg2
           obtain ⟨A2, c2, rfl⟩ := own_form hown2
           have P1 := Lib.hid p1
           have P2 := Lib.hid p2
           clear p1 p2 hown2 hg2))
      go_end0
      rw [← List.append_assoc, E.out]
      exact ⟨rfl, P1.out, K3.out.trans P2.out⟩

theorem dig_any (n least g : Nat) (l : List UInt8) (W : World) (hn : n < 10000000) (h1 : 1 ≤ least) (h2 : least ≤ 7) (hl : l.length ≤ 100) (ht : PowAt W) (hT : TextIs g l W) :
    Calls Tryd.prog 32 #[.int .i64 n, .int .i64 least, .pointer (some ⟨g, 0, none⟩)] W fun e w' => e = .returned (.tuple #[]) ∧ TextIs g (l ++ pd least n) w' ∧ Below g W w' := by
  have := dig_walk n least g l _ W hn h2 hl (by rw [Lib.decDigits_length]; exact nd_le n hn) rfl ht hT
  rw [List.append_assoc, ← pd_dec n least (by omega)] at this
  exact this

theorem text_string {g c : Nat} {A : Option Addr} {l : List UInt8} {W : World} (h : TextAt g A c l W) (h0 : 0 < l.length) : (convert 58 9 (.slice A l.length c)).run Tryd.prog W = .ok (.string ⟨l.toArray⟩) W := by
  obtain ⟨g', cap, hv, _, _⟩ := h.own.form h0
  have hA : A = some ⟨g', 0, none⟩ := by injection hv
  subst hA
  exact run_convert_bytes_back W _ _ 5 ⟨g', 0, none⟩ c l Tryd.underlying58 Tryd.underlying5 Tryd.underlying9 (fun j hj => h.own.cells (g := g') rfl j _ (by simp [bcl, hj]))

/-- One byte behind the text, as the walk takes it; n and m are the lengths as they stand in the frame. -/
theorem wpList_push1 {w : World} {ops : Array Oper} {rest : List Oper} {o : Oper} {a : Act} {Q : Exit → Act → World → Prop} (hgd : o.guard = none) (s x : Operand)
    (ho : o.op = .call { callee := .builtin .append, args := #[s, x], argTypes := #[58, 58] }) {g n m c : Nat} {A : Option Addr} {l : List UInt8} (hn : l.length = n) (hm : n + 1 = m) (X : TextAt g A c l w)
    (hs : a.eval s = .slice A n c) (ad : Addr) (b : UInt8) (hx : a.eval x = .slice (some ad) 1 1) (hb : w.cell? ad = some (.int .u8 (b.toNat : Int))) (hl : n ≤ 100000)
    (h : ∀ A' c' w', TextIs g (l ++ [b]) (w'.setCell ⟨g, 0, none⟩ (.slice A' m c')) → Below g w (w'.setCell ⟨g, 0, none⟩ (.slice A' m c')) → w'.cell? ⟨g, 0, none⟩ = some (.slice A n c) → w'.frozen? ⟨g, 0, none⟩ = false → wpList Tryd.prog ops Q rest (a.put o.dst (.slice A' m c')) w') : wpList Tryd.prog ops Q (o :: rest) a w := by
  obtain ⟨i0, hi0, hz0, hz1, hz2⟩ := info_parts uint8_info
  subst hn hm
  refine wpList_append_own_at _ hgd s x _ ho (g + 1) 5 i0 _ 1 1 Tryd.underlying58 hi0 hz0 hz1 hz2 rfl (by omega) (.slice A l.length c) l.length (bcl l) hs X.own ad 1 1 (bcl [b]) hx rfl (by intro j u hu; rcases j with _ | j <;> simp [bcl] at hu; subst hu; simpa [Addr.add] using hb) (bcl_one _) (by simp only [maxLen]; omega) (by omega) X.lt ?_
  intro v' w' hown hg _ _
  obtain ⟨p1, p2, p3, p4⟩ := X.push (x := [b]) (by simpa [bcl] using hown) hg
  obtain ⟨A', c', rfl⟩ := own_form hown
  exact h A' c' w' p1 p2 p3 p4

end Go.Proofs.YtjafbopmedbhcaaDoor
