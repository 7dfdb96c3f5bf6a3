/- The walk of the law LexerWords. -/
import Derived.Test.YtomiopdmgdidnaaDoorLxT
import Derived.Test.YtomiopdmgdidnaaDoorLxR
namespace Go.Proofs.YtomiopdmgdidnaaDoor
open Go.RowKit
attribute [local go_sem] Oper.semAt_some

set_option maxHeartbeats 2000000 in
theorem lexerWords_walk (s : List UInt8) (w : World) : Calls Tryd.prog 3 #[.string ⟨s.toArray⟩] w fun e w' => e = .returned (.bool true) ∧ Below w.heap.size w w' := by
  have hz := lxsize s
  by_cases hl : 300 < s.length
  · have hl' : (300 : Int) < (s.length : Int) := by omega
    have AW := Lib.hid lxawake
    clear hl
    go_enter Tryd.func3, Tryd.ntmps3
    go_wp2_with (first
      | (go_at_call 9; refine (AW.out _).mono ?_; rintro e w1 ⟨rfl, k1⟩
         have K1 := Lib.hid k1
         clear k1
         simp only []))
    go_ret
    exact ⟨rfl, K1.out⟩
  · have hl' : ¬ (300 : Int) < (s.length : Int) := by omega
    have hsl : s.length ≤ 1000 := by omega
    obtain ⟨er, her⟩ : ∃ er, lexE s = er := ⟨_, rfl⟩
    obtain ⟨ws, hws⟩ : ∃ ws, wordsL s = ws := ⟨_, rfl⟩
    have hwl : ws.length ≤ 32 := by rw [← hws]; exact words_len s
    have AW := Lib.hid lxawake
    have V1 := Lib.hid (fun W => words_is s ws er W (by omega) (Lib.hid ⟨her, hws⟩))
    have V2 := Lib.hid (fun W => rwords_is s ws er W hsl (Lib.hid ⟨her, hws⟩))
    have HL := Lib.hid hwl
    clear her hws hl hsl hwl
    go_enter Tryd.func3, Tryd.ntmps3
    go_wp2_with (first
      | (go_at_call 10; refine (V1.out _).mono ?_; rintro e w1 ⟨A1, c1, rfl, o1, k1⟩
         have O1 := Lib.hid (Ws.of_own o1)
         have K1 := Lib.hid k1
         clear o1 k1
         simp only [])
      | (go_at_call 11; refine (V2.out _).mono ?_; rintro e w2 ⟨A2, c2, rfl, o2, k2⟩
         have O1' := Lib.hid (O1.out.next k2)
         have O2 := Lib.hid (Ws.of_own o2)
         have K2 := Lib.hid (K1.out.trans (k2.mono K1.out.size))
         have X1 := Lib.hid (texts_is A1 A2 ws.length c1 c2 ws ws true w2 O1'.out O2.out (by have := HL.out; omega) ws.length rfl rfl (Lib.hid (decide_eq_true rfl)))
         clear o2 k2
         simp only [])
      | (go_at_call 12; with_reducible refine X1.out.mono ?_; rintro e w3 ⟨rfl, k3⟩
         have K3 := Lib.hid (K2.out.trans (k3.mono K2.out.size))
         clear k3
         simp only [])
      | (go_at_call 9; refine (AW.out _).mono ?_; rintro e w4 ⟨rfl, k4⟩
         have K4 := Lib.hid (K3.out.trans (k4.mono K3.out.size))
         clear k4
         simp only []))
    go_ret
    exact ⟨rfl, K4.out⟩
end Go.Proofs.YtomiopdmgdidnaaDoor
