/- The contract of zone.open at a zone of one era that has no rules and no end. -/
import Derived.Test.YtdmfgechoanmlaaGreatDoorZnF
namespace Go.Proofs.YtdmfgechoanmlaaGreatDoor
open Go Go.RowKit Go.Shelf
attribute [local go_sem] Oper.semAt_some

theorem ownE_below {β : Type} {n0 B : Nat} {W0 : World} (hn : n0 ≤ W0.heap.size) (hB : n0 ≤ B) : OwnE B (fun (_ : β) W => Below n0 W0 W) := fun _ _ _ _ hs hg hr => hs.grown hg (Nat.le_trans hn hs.size) (fun k e => Nat.le_trans hB (hr k e).1)
theorem OwnE.and {β : Type} {B : Nat} {I I' : β → World → Prop} (h : OwnE B I) (h' : OwnE B I') : OwnE B (fun s W => I s W ∧ I' s W) := fun s W W' row hs hg hr => ⟨h s W W' row hs.1 hg hr, h' s W W' row hs.2 hg hr⟩
theorem OwnE.false {β : Type} {B : Nat} : OwnE B (fun (_ : β) _ => False) := fun _ _ _ _ h _ _ => h
def nilS : Value := .slice none 0 0
/-- The first question: which rules. -/
theorem asks_ruled (gw Bs : Nat) (e : EV) (W0 : World) (he : e.rl.isEmpty = true) : Asks 51 #[.pointer (some ⟨Bs, 0, none⟩), .pointer (some ⟨gw, 0, none⟩)] gw [e] (fun i W => Wh gw (List.replicate i nilS) [] W ∧ Below gw W0 W) (fun _ _ _ => False) := by
  rintro i e' W he' ⟨hw, hb⟩
  have hi := (List.getElem?_eq_some_iff.1 he').1
  simp at hi
  subst hi
  simp at he'
  subst he'
  refine (ruled_no gw Bs _ e _ _ W hw (by simp) he).mono ?_
  rintro x W' ⟨rfl, h1, h2, h3, h4⟩
  exact ⟨0, rfl, .inl ⟨rfl, h1, hb.trans h3⟩, h2, h3, h4⟩
/-- The second one: what is wrong with it. -/
theorem asks_right (gw Bz : Nat) (Az : Option Addr) (cz : Nat) (e : EV) (v : Int) (W0 : World) (hz : W0.cell? ⟨Bz, 1, none⟩ = some (.slice Az 1 cz)) (hB : Bz < gw) (hg : gw ≤ W0.heap.size) (HA : ∀ W, Below gw W0 W → LaidB W) (HF : e.fm.length ≤ 1000) (hen : e.en = false) (hv : erE e true 0 = v) :
    Asks 53 #[.pointer (some ⟨Bz, 0, none⟩)] gw [e] (fun i W => (Wh gw [nilS] [] W ∧ Below gw W0 W) ∧ (i = 1 → v = 0)) (fun _ x W => (Wh gw [nilS] [] W ∧ Below gw W0 W) ∧ x = v) := by
  rintro i e' W he' ⟨⟨hw, hb⟩, _⟩
  have hi := (List.getElem?_eq_some_iff.1 he').1
  simp at hi
  subst hi
  simp at he'
  subst he'
  refine (right_is Bz Az 1 cz 0 e true 0 v W ((hb.cell (p := ⟨Bz, 1, none⟩) hB).trans hz) (by omega) rfl (Lib.hid (HA W hb)) HF (Lib.hid fun h => by rw [hen] at h; cases h) hv).mono ?_
  rintro x W' ⟨rfl, h1⟩
  have hs := hb.size
  refine ⟨v, rfl, ?_, KeepsOthers.of_grownBy (zgrown h1) (fun j o hj ho => by cases hj), h1.mono (by omega), KpT.below h1⟩
  have key : Wh gw [nilS] [] W' ∧ Below gw W0 W' := ⟨hw.next h1, hb.trans (h1.mono (by omega))⟩
  by_cases h0 : v = 0
  · exact .inl ⟨h0, key, fun _ => h0⟩
  · exact .inr ⟨h0, key, rfl⟩
/-- The third one: whether ends rise. -/
theorem asks_rising (gw : Nat) (e : EV) (W0 : World) (hg : gw ≤ W0.heap.size) (hen : e.en = false) :
    Asks 55 #[.pointer (some ⟨gw, 0, none⟩)] gw [e] (fun _ W => Wh gw [nilS] [] W ∧ Below gw W0 W) (fun _ _ _ => False) := by
  rintro i e' W he' ⟨hw, hb⟩
  have hi := (List.getElem?_eq_some_iff.1 he').1
  simp at hi
  subst hi
  simp at he'
  subst he'
  refine (rising_no gw 0 e _ _ none 0 0 W hw hen rfl).mono ?_
  rintro x W' ⟨rfl, h1⟩
  have hs := hb.size
  exact ⟨0, rfl, .inl ⟨rfl, hw.next h1, hb.trans (h1.mono (by omega))⟩, KeepsOthers.of_grownBy (zgrown h1) (fun j o hj ho => by cases hj), h1.mono (by omega), KpT.below h1⟩
theorem BlkN.set2z {w W : World} {g : Nat} {t : TypeId} {a b x y : Value} (h : BlkN w g #[a, b] t W) : BlkN w g #[x, y] t ((W.setCell ⟨g, 0, none⟩ x).setCell ⟨g, 1, none⟩ y) :=
  ⟨(h.bel.setCell (p := ⟨g, 0, none⟩) h.ge _).setCell (p := ⟨g, 1, none⟩) h.ge _, h.ge, by
    have := blk_set (i := 1) (blk_set (i := 0) h.blk x) y
    simpa using this⟩
/-- What open answers. -/
def Open1 (v : Int) (x : Ending) (W : World) : Prop := (v = 0 ∧ ∃ g c Ae ce, x = .returned (.tuple #[.agg #[.slice (some ⟨g, 0, none⟩) 1 c, .slice Ae 0 ce], .int .i64 0]) ∧ W.cell? ⟨g, 0, none⟩ = some (.slice none 0 0)) ∨ (v ≠ 0 ∧ x = .returned (.tuple #[.agg #[.slice none 0 0, .slice none 0 0], .int .i64 v]))
set_option maxRecDepth 20000 in
set_option maxHeartbeats 4000000 in
theorem open1_is (nm : List UInt8) (Az : Option Addr) (cz : Nat) (e : EV) (fn : Fn) (fs lb : Array Value) (v : Int) (w : World) (hE : EsAt w.heap.size Az [e] w) (he : e.rl.isEmpty = true) (hen : e.en = false) (HA : Hid (LaidB w)) (HF : Hid (e.fm.length ≤ 1000)) (hv : Hid (erE e true 0 = v)) :
    Calls Tryz.prog 31 #[.agg #[.string ⟨nm.toArray⟩, .slice Az 1 cz], .func fn fs lb] w fun x w' => Open1 v x w' ∧ Below w.heap.size w w' := by
  have hmf : ∀ (fn : Fn) (first cap : Array Value) (w : World), (Instr.makeFunc fn first cap).run Tryz.prog w = .ok (.func fn first cap) w := fun _ _ _ _ => rfl
  have hfe : ∀ W, (binOp BinOp.eql 88 (Value.func fn fs lb) Value.nilFunc).run Tryz.prog W = .ok (.bool false) W := fun W => by rfl
  obtain ⟨W0, hW0⟩ : ∃ W0, ((((w.alloc (.cells #[.string ⟨nm.toArray⟩, .slice Az 1 cz] 24)).alloc (.cells #[.func fn fs lb] 88)).alloc (.cells #[.slice none 0 0, .slice none 0 0] 91)).alloc (.cells #[.slice none 0 0, .slice none 0 0] 91)) = W0 := ⟨_, rfl⟩
  obtain ⟨B, hB⟩ : ∃ B, w.heap.size = B := ⟨_, rfl⟩
  have k0 : Below w.heap.size w W0 := by rw [← hW0]; exact ((((Below.refl _ w).alloc (Nat.le_refl _) _).alloc (by simp) _).alloc (by simp; omega) _).alloc (by simp; omega) _
  have s0 : W0.heap.size = B + 4 := by rw [← hW0, ← hB]; simp
  have b0 : W0.heap[B]? = some (.cells #[.string ⟨nm.toArray⟩, .slice Az 1 cz] 24 (0, 0)) := by rw [← hW0, ← hB]; exact (Below.heap_alloc _ _ _ (by simp; omega)).trans ((Below.heap_alloc _ _ _ (by simp; omega)).trans ((Below.heap_alloc _ _ _ (by simp)).trans (World.alloc_heap_new w _)))
  have b2 : W0.heap[B + 2]? = some (.cells #[.slice none 0 0, .slice none 0 0] 91 (0, 0)) := by
    rw [← hW0, ← hB]
    refine (Below.heap_alloc _ _ _ (by simp)).trans ?_
    have := World.alloc_heap_new ((w.alloc (.cells #[.string ⟨nm.toArray⟩, .slice Az 1 cz] 24)).alloc (.cells #[.func fn fs lb] 88)) (.cells #[.slice none 0 0, .slice none 0 0] 91)
    rwa [World.size_alloc, World.size_alloc] at this
  have b3 : W0.heap[B + 3]? = some (.cells #[.slice none 0 0, .slice none 0 0] 91 (0, 0)) := by
    rw [← hW0, ← hB]
    have := World.alloc_heap_new (((w.alloc (.cells #[.string ⟨nm.toArray⟩, .slice Az 1 cz] 24)).alloc (.cells #[.func fn fs lb] 88)).alloc (.cells #[.slice none 0 0, .slice none 0 0] 91)) (.cells #[.slice none 0 0, .slice none 0 0] 91)
    rwa [World.size_alloc, World.size_alloc, World.size_alloc] at this
  have wh0 : Wh (B + 3) [] [] W0 := ⟨none, 0, none, 0, b3, World.ownsRow_nil _ _ _ _, World.ownsRow_nil _ _ _ _⟩
  have E0 : ∀ X, Below (B + 3) W0 X → EsAt (B + 3) Az [e] X := fun X hX => ((hE.below k0).mono (by omega)).below hX
  have A0 : ∀ X, Below (B + 3) W0 X → LaidB X := fun X hX => HA.out.next (k0.trans (hX.mono (by omega)))
  have HE := Lib.hid E0
  have HL := Lib.hid A0
  have HW := Lib.hid wh0
  have HK := Lib.hid k0
  have H2 := Lib.hid b2
  have HZ := Lib.hid b0
  clear hE HA k0 b3 wh0 E0 A0 b2 b0
  go_enter Tryz.func31, Tryz.ntmps31
  go_wp2_with fail
  try simp only [hW0, hB]
  clear hW0
  have i0 : ∀ W, (Instr.index 122 (.agg #[.func (.func 51) #[] #[.pointer (some ⟨B + 1, 0, none⟩), .pointer (some ⟨B + 1 + 1 + 1, 0, none⟩)], .func (.func 53) #[] #[.pointer (some ⟨B, 0, none⟩)], .func (.func 55) #[] #[.pointer (some ⟨B + 1 + 1 + 1, 0, none⟩)]]) (.int .i64 0)).run Tryz.prog W = .ok (.func (.func 51) #[] #[.pointer (some ⟨B + 1, 0, none⟩), .pointer (some ⟨B + 1 + 1 + 1, 0, none⟩)]) W := fun W => by kernel_rfl
  have i1 : ∀ W, (Instr.index 122 (.agg #[.func (.func 51) #[] #[.pointer (some ⟨B + 1, 0, none⟩), .pointer (some ⟨B + 1 + 1 + 1, 0, none⟩)], .func (.func 53) #[] #[.pointer (some ⟨B, 0, none⟩)], .func (.func 55) #[] #[.pointer (some ⟨B + 1 + 1 + 1, 0, none⟩)]]) (.int .i64 1)).run Tryz.prog W = .ok (.func (.func 53) #[] #[.pointer (some ⟨B, 0, none⟩)]) W := fun W => by kernel_rfl
  have i2 : ∀ W, (Instr.index 122 (.agg #[.func (.func 51) #[] #[.pointer (some ⟨B + 1, 0, none⟩), .pointer (some ⟨B + 1 + 1 + 1, 0, none⟩)], .func (.func 53) #[] #[.pointer (some ⟨B, 0, none⟩)], .func (.func 55) #[] #[.pointer (some ⟨B + 1 + 1 + 1, 0, none⟩)]]) (.int .i64 2)).run Tryz.prog W = .ok (.func (.func 55) #[] #[.pointer (some ⟨B + 1 + 1 + 1, 0, none⟩)]) W := fun W => by kernel_rfl
  go_loopw [28] (fun vi wr => ∃ k : Nat, vi = .int .i64 k ∧ k ≤ 3 ∧ Below (B + 3) W0 wr ∧ (k = 0 → Wh (B + 3) [] [] wr) ∧ (1 ≤ k → Wh (B + 3) [nilS] [] wr) ∧ (2 ≤ k → v = 0)) (fun vi _ => 3 - (intOf vi).toNat)
  case atStart => exact ⟨0, rfl, by omega, Below.refl _ _, fun _ => HW.out, fun h => by omega, fun h => by omega⟩
  case round =>
    obtain ⟨k, rfl, hk, hb, h0, h1, h2⟩ := hrel
    have HB := Lib.hid hb
    have c2 := Lib.hid ((hb.block (B + 2) (by omega)).trans H2.out)
    have hz := cel2 ((hb.block B (by omega)).trans HZ.out)
    have hs := hb.size
    have F0 : Hid (k = 0 → Calls Tryz.prog 57 #[.slice Az 1 cz, .func (.func 51) #[] #[.pointer (some ⟨B + 1, 0, none⟩), .pointer (some ⟨B + 1 + 1 + 1, 0, none⟩)]] wr fun x w1 => x = .returned (.int .i64 0) ∧ Wh (B + 3) [nilS] [] w1 ∧ Below (B + 3) W0 w1) := Lib.hid fun hk0 => by
      refine (callsIn_wide.1 (fwrong_in 6 (Nat.le_refl _) 51 #[.pointer (some ⟨B + 1, 0, none⟩), .pointer (some ⟨B + 3, 0, none⟩)] (fun _ _ => by kernel_rfl) (B + 3) Az 1 cz [e] _ _ wr rfl (by omega) (HE.out wr hb) (by omega) (OwnE.and (Wh.own _ _ (fun i => List.replicate i nilS) (fun _ => [])) (ownE_below (W0 := W0) (by omega) (by omega))) (fun _ => OwnE.false) (asks_ruled (B + 3) (B + 1) e W0 he) ⟨h0 hk0, hb⟩)).mono ?_
      rintro x w1 ⟨v1, rfl, (⟨rfl, h3, h4⟩ | ⟨_, _, _, h3⟩), h5⟩
      · exact ⟨rfl, h3, h4⟩
      · exact h3.elim
    have F1 : Hid (k = 1 → Calls Tryz.prog 57 #[.slice Az 1 cz, .func (.func 53) #[] #[.pointer (some ⟨B, 0, none⟩)]] wr fun x w1 => x = .returned (.int .i64 v) ∧ Wh (B + 3) [nilS] [] w1 ∧ Below (B + 3) W0 w1) := Lib.hid fun hk0 => by
      refine (callsIn_wide.1 (fwrong_in 6 (Nat.le_refl _) 53 #[.pointer (some ⟨B, 0, none⟩)] (fun _ _ => by kernel_rfl) (B + 3) Az 1 cz [e] _ _ wr rfl (by omega) (HE.out wr hb) (by omega)
        (OwnE.and (OwnE.and (Wh.own _ _ (fun _ => [nilS]) (fun _ => [])) (ownE_below (W0 := W0) (by omega) (by omega))) (fun s _ _ _ h _ _ => h)) (fun _ => OwnE.and (OwnE.and (Wh.own _ _ (fun _ => [nilS]) (fun _ => [])) (ownE_below (W0 := W0) (by omega) (by omega))) (fun s _ _ _ h _ _ => h))
        (asks_right (B + 3) B Az cz e v W0 (cel2 HZ.out).2 (by omega) (by omega) HL.out HF.out hen hv.out) ⟨⟨h1 (by omega), hb⟩, fun h => by omega⟩)).mono ?_
      rintro x w1 ⟨v1, rfl, (⟨rfl, ⟨h3, h4⟩, h5⟩ | ⟨h3, _, _, ⟨h4, h5⟩, rfl⟩), h6⟩
      · exact ⟨by rw [h5 rfl], h3, h4⟩
      · exact ⟨rfl, h4, h5⟩
    have F2 : Hid (k = 2 → Calls Tryz.prog 57 #[.slice Az 1 cz, .func (.func 55) #[] #[.pointer (some ⟨B + 1 + 1 + 1, 0, none⟩)]] wr fun x w1 => x = .returned (.int .i64 0) ∧ Wh (B + 3) [nilS] [] w1 ∧ Below (B + 3) W0 w1) := Lib.hid fun hk0 => by
      refine (callsIn_wide.1 (fwrong_in 6 (Nat.le_refl _) 55 #[.pointer (some ⟨B + 3, 0, none⟩)] (fun _ _ => by kernel_rfl) (B + 3) Az 1 cz [e] _ _ wr rfl (by omega) (HE.out wr hb) (by omega) (OwnE.and (Wh.own _ _ (fun _ => [nilS]) (fun _ => [])) (ownE_below (W0 := W0) (by omega) (by omega))) (fun _ => OwnE.false) (asks_rising (B + 3) e W0 (by omega) hen) ⟨h1 (by omega), hb⟩)).mono ?_
      rintro x w1 ⟨v1, rfl, (⟨rfl, h3, h4⟩ | ⟨_, _, _, h3⟩), h5⟩
      · exact ⟨rfl, h3, h4⟩
      · exact h3.elim
    have H1 := Lib.hid h1
    have HV := Lib.hid h2
    obtain ⟨z0, z1⟩ := hz
    clear hb h0 h1 h2
    rcases (show k = 0 ∨ k = 1 ∨ k = 2 ∨ k = 3 by omega) with rfl | rfl | rfl | rfl
    · go_wp2_with (first | (go_at_call 57; refine (F0.out rfl).mono ?_; rintro x w1 ⟨rfl, h3, h4⟩; have H3 := Lib.hid h3; have H4 := Lib.hid h4; clear h3 h4; simp only []))
      go_roundw
      case rel => exact ⟨1, rfl, by omega, H4.out, fun h => by omega, fun _ => H3.out, fun h => by omega⟩
      case measure => simp [intOf]
    · by_cases hv0 : v = 0
      · subst hv0
        go_wp2_with (first | (go_at_call 57; refine (F1.out rfl).mono ?_; rintro x w1 ⟨rfl, h3, h4⟩; have H3 := Lib.hid h3; have H4 := Lib.hid h4; clear h3 h4; simp only []))
        go_roundw
        case rel => exact ⟨2, rfl, by omega, H4.out, fun h => by omega, fun _ => H3.out, fun _ => trivial⟩
        case measure => simp [intOf]
      · have HV0 := Lib.hid hv0
        have hvb : (v != 0) = true := by simpa using hv0
        clear hv0
        go_wp2_with (first
          | (go_at_call 57; refine (F1.out rfl).mono ?_; rintro x w1 ⟨rfl, h3, h4⟩
             have H5 := Lib.hid h4
             have c2' := (h4.block (B + 2) (by omega)).trans H2.out
             obtain ⟨q0, q1⟩ := cel2 c2'
             have f0 := frz (j := 0) c2'
             have f1 := frz (j := 1) c2'
             have C2 := Lib.hid c2'
             clear h3 h4 c2'
             simp only []))
        have N : BlkN w (B + 2) #[.slice none 0 0, .slice none 0 0] 91 w1 := ⟨HK.out.trans (H5.out.mono (by omega)), by omega, C2.out⟩
        refine N.set2z.ret fun W' Bk => ?_
        obtain ⟨c0, c1⟩ := cel2 Bk.blk
        exact bodyPost_ret (by simp [results, Tryz.results31, go_sem, c0, c1]) rfl ⟨.inr ⟨HV0.out, rfl⟩, hB ▸ Bk.bel⟩
    · go_wp2_with (first | (go_at_call 57; refine (F2.out rfl).mono ?_; rintro x w1 ⟨rfl, h3, h4⟩; have H3 := Lib.hid h3; have H4 := Lib.hid h4; clear h3 h4; simp only []))
      go_roundw
      case rel => exact ⟨3, rfl, by omega, H4.out, fun h => by omega, fun _ => H3.out, fun _ => HV.out (by omega)⟩
      case measure => simp [intOf]
    · obtain ⟨Ar, cr, Ae, ce, hw⟩ := H1.out (by omega)
      obtain ⟨y0, y1⟩ := cel2 hw.blk
      obtain ⟨q0, q1⟩ := cel2 c2.out
      have f0 := frz (j := 0) c2.out
      have f1 := frz (j := 1) c2.out
      have HW' := Lib.hid hw
      obtain ⟨g, cap, rfl, rfl, hc⟩ := wown_cells hw.rw' (by simp)
      have hg1 := (hw.rw'.lt g rfl).1
      have hg2 := hc 0 nilS rfl
      clear hw hc
      go_wp2
      have N : BlkN w (B + 2) #[.slice none 0 0, .slice none 0 0] 91 wr := ⟨HK.out.trans (HB.out.mono (by omega)), by omega, c2.out⟩
      have N2 := N.set2z (x := .slice (some ⟨g, 0, none⟩) 1 cr) (y := .slice Ae 0 ce)
      obtain ⟨c0, c1⟩ := cel2 N2.blk
      have hgg : ((wr.setCell ⟨B + 2, 0, none⟩ (.slice (some ⟨g, 0, none⟩) 1 cr)).setCell ⟨B + 2, 1, none⟩ (.slice Ae 0 ce)).cell? ⟨g, 0, none⟩ = some (.slice none 0 0) := by
        refine (World.cell?_of_block ?_).trans hg2
        rw [Below.heap_setCell _ _ _ _ (by simp; omega), Below.heap_setCell _ _ _ _ (by simp; omega)]
      exact bodyPost_ret (by simp [results, Tryz.results31, go_sem, c0, c1]) rfl ⟨.inl ⟨HV.out (by omega), g, cr, Ae, ce, rfl, hgg⟩, N2.bel⟩
end Go.Proofs.YtdmfgechoanmlaaGreatDoor
