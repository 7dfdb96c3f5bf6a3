/- What is shown where a letter may be long: as long as whatever comes in.
The contract of a world's rules of a name.
How much there is of what came in: no letter is longer than what one string may take.
What is known of an era of a world that is not too much, for the law ZoneWithin. -/
import Derived.Test.YtdmfgechoanmlaaGreatDoorZmJ
import Derived.Test.YtdmfgechoanmlaaGreatDoorZmH
import Derived.Test.YtdmfgechoanmlaaGreatDoorZmF
import Derived.Test.YtdmfgechoanmlaaGreatDoorMYA
import Derived.SizedLaws
import Derived.Test.YtdmfgechoanmlaaGreatDoorMYD
import Derived.Test.YtdmfgechoanmlaaGreatDoorMYC
namespace Go.Proofs.YtdmfgechoanmlaaGreatDoor
open Go Go.RowKit Go.Sort

theorem wadd_long (x y : List UInt8) (h : x.length + y.length ≤ 9223372036854775807) (W : World) : (Op.stringOp .add ⟨x.toArray⟩ ⟨y.toArray⟩).run Tryz.prog W = .ok (.string ⟨(x ++ y).toArray⟩) W := by
  rw [run_string_add_sum W _ _ (by simp [ByteArray.size]; omega), ByteArray.mk_append_mk]
theorem zsh_letter (f l : List UInt8) (off : Int) (dst : Bool) (w : World) (hk : kdK f = some 1) (hl : l.length ≤ 1000000000000000) (HA : Hid (LaidB w)) (HF : Hid (f.length ≤ 1000)) :
    Calls Tryz.prog 60 #[.string ⟨f.toArray⟩, .int .i64 off, .bool dst, .string ⟨l.toArray⟩] w fun e w' => e = .returned (.tuple #[.string ⟨(ahd f ++ l ++ bhd 1 f).toArray⟩, .int .i64 0]) ∧ Below w.heap.size w w' := by
  have HK : Hid (kdV f = 1 ∧ kdE f = 0) := Lib.hid (by unfold kdV kdE; rw [hk]; exact ⟨rfl, rfl⟩)
  obtain ⟨a, ha⟩ : ∃ a, ahd f = a := ⟨_, rfl⟩
  obtain ⟨b, hb⟩ : ∃ b, bhd 1 f = b := ⟨_, rfl⟩
  obtain ⟨-, -, -, la, lb, hcut⟩ := fm_parts hk
  rw [ha] at la
  rw [hb] at lb
  have HC : Hid (Lib.cut f [37, 115] = (a, b, true)) := Lib.hid (by rw [← ha, ← hb]; exact hcut.resolve_left (by omega))
  obtain ⟨t, ht⟩ : ∃ t, a ++ l = t := ⟨_, rfl⟩
  obtain ⟨u, hu⟩ : ∃ u, t ++ b = u := ⟨_, rfl⟩
  have ad1 := wadd_long a l (by omega)
  rw [ht] at ad1
  have ad2 := wadd_long t b (by rw [← ht]; simp; omega)
  rw [hu] at ad2
  rw [ha, hb, ht, hu]
  clear hk ha hb ht hu hcut
  go_enter Tryz.func60, Tryz.ntmps60
  go_wp2_with (first
    | (go_at_call 71; refine (kind_is f _ _ _ HA.out HF.out HK).mono ?_; rintro e w1 ⟨rfl, k1⟩; simp only []
       have A1 := Lib.hid (HA.out.next k1)
       have K1 := Lib.hid k1
       have c1 := A1.out.mks.cell 1 _ rfl
       clear k1 HK)
    | (go_at_call 79; refine (cut_is f [37, 115] _ _ _ _ HF.out A1.out.mx HC).mono ?_; rintro e w2 ⟨rfl, k2⟩; simp only []
       have K2 := Lib.hid (K1.out.trans (k2.mono K1.out.size))
       clear k2 HC))
  go_ret2
  exact ⟨rfl, K2.out⟩
theorem zshow_is (f l : List UInt8) (off : Int) (dst : Bool) (w : World) (HA : Hid (LaidB w)) (HF : Hid (f.length ≤ 1000 ∧ l.length ≤ 1000000000000000)) :
    Calls Tryz.prog 60 #[.string ⟨f.toArray⟩, .int .i64 off, .bool dst, .string ⟨l.toArray⟩] w fun e w' => e = .returned (.tuple #[.string ⟨(shS f off dst l).toArray⟩, .int .i64 (shE f off)]) ∧ Below w.heap.size w w' := by
  unfold shS shE
  have HF1 := Lib.hid HF.out.1
  cases hk : kdK f with
  | none => exact sh_none f l off dst w hk HA HF1
  | some k =>
    have h3 := (fm_parts hk).1
    obtain rfl | rfl | rfl | rfl : k = 0 ∨ k = 1 ∨ k = 2 ∨ k = 3 := by omega
    · exact sh_plain f l off dst w hk HA HF1
    · exact zsh_letter f l off dst w hk HF.out.2 HA HF1
    · by_cases ho : off ≤ -360000 ∨ 360000 ≤ off
      · have := sh_far f l off dst w hk ho HA HF1
        simp only [if_pos ho, ofE]; exact this
      · have := sh_number f l off dst w hk ho HA HF1
        simp only [if_neg ho, ofE]; exact this
    · exact sh_slash f l off dst w hk HA HF1
/-- What an era saves at an instant, and the letter. -/
def svW (e : EV) (rs : List RV) (t : Int) : Int := if e.rl.isEmpty then e.sv else svO (latF e.of t 0 none (rowF rs))
def ltW (e : EV) (rs : List RV) (n : Nat) (t : Int) : List UInt8 := if e.rl.isEmpty then [] else ltO (latF e.of t 0 none (rowF rs)) (ltrL rs n)
theorem zwithin_is (e : EV) (A0 : Option Addr) (n c0 : Nat) (rs : List RV) (t s e0 : Int) (l : List UInt8) (V : Value) (w : World) (hA : LaidF w) (hB : LaidB w) (hR : RowsAt 11 cR A0 rs w) (hP : LatP n rs e.of t) (v1 : -90000 < e.sv) (v2 : e.sv < 90000) (hf : e.fm.length ≤ 1000) (hl : l.length ≤ 1000000000000000)
    (hs : svW e rs t = s) (hlt : ltW e rs n t = l) (hE : plO e s = e0) (hV : plU e s l = V) :
    Calls Tryz.prog 33 #[evV e, .slice A0 n c0, .int .i64 t] w fun x w' => x = .returned (.tuple #[V, .int .i64 e0]) ∧ Below w.heap.size w w' := by
  have SH : Hid (∀ W, LaidB W → Calls Tryz.prog 60 #[.string ⟨e.fm.toArray⟩, .int .i64 (e.of + s), .bool (s != 0), .string ⟨l.toArray⟩] W fun x w' => x = .returned (.tuple #[.string ⟨(shS e.fm (e.of + s) (s != 0) l).toArray⟩, .int .i64 (shE e.fm (e.of + s))]) ∧ Below W.heap.size W w') := Lib.hid fun W hW => zshow_is e.fm l _ _ W (Lib.hid hW) (Lib.hid ⟨hf, hl⟩)
  have h1 := hP.o1
  have h2 := hP.o2
  unfold svW at hs
  unfold ltW at hlt
  by_cases he : e.rl.isEmpty = true
  · rw [if_pos he] at hs hlt
    subst hs hlt
    exact within_gen e (.slice A0 n c0) t e.sv e0 [] V w (Lib.hid hB) (Lib.hid fun W _ => saved_no e _ t W he) h1 h2 v1 v2 SH hE hV
  · have heb : e.rl.isEmpty = false := by simpa using he
    rw [if_neg he] at hs hlt
    have hb := svO_bd hP.ap e.of t
    rw [hs] at hb
    exact within_gen e (.slice A0 n c0) t s e0 l V w (Lib.hid hB) (Lib.hid fun W k => saved_ruled e A0 n c0 rs t s l W heb (hA.next k) (hR.next k) hP hs hlt) h1 h2 hb.1 hb.2 SH hE hV
end Go.Proofs.YtdmfgechoanmlaaGreatDoor

namespace Go.Proofs.YtdmfgechoanmlaaGreatDoor
open Go Go.RowKit Go.Sort
attribute [local go_sem] Oper.semAt_some

/-- The first set of a name, or one without rules. -/
def ofW (x : WV) (nm : List UInt8) : SV := (x.ss.find? fun s => s.nm == nm).getD ⟨[], none, 0, []⟩
theorem find_first {α : Type} {p : α → Bool} : ∀ {l : List α} {i : Nat} {s : α}, l[i]? = some s → p s = true → (∀ j z, j < i → l[j]? = some z → p z = false) → l.find? p = some s
  | [], i, s, h, _, _ => by simp at h
  | z :: l, 0, s, h, hp, _ => by simp at h; subst h; simp [hp]
  | z :: l, i + 1, s, h, hp, hn => by
    have := hn 0 z (by omega) rfl
    rw [List.find?_cons_of_neg (by rw [this]; decide)]
    exact find_first (i := i) (by simpa using h) hp fun j y hj hy => hn (j + 1) y (by omega) (by simpa using hy)
theorem ofW_mem (x : WV) (nm : List UInt8) : ofW x nm ∈ x.ss ∨ ofW x nm = ⟨[], none, 0, []⟩ := by
  unfold ofW
  cases h : x.ss.find? (fun s => s.nm == nm) with
  | none => exact .inr rfl
  | some s => exact .inl (List.mem_of_find?_eq_some h)
set_option maxRecDepth 20000 in
theorem wof_is (x : WV) (nm : List UInt8) (w : World) (hX : WvAt x w) (hO : WvOk x) :
    Calls Tryz.prog 10 #[wvV x, .string ⟨nm.toArray⟩] w fun e w' => e = .returned (.slice (ofW x nm).a (ofW x nm).rs.length (ofW x nm).c) ∧ Below w.heap.size w w' := by
  have FY : Hid (∀ (i : Nat) (s : SV), x.ss[i]? = some s → s.nm = nm → (∀ j z, j < i → x.ss[j]? = some z → z.nm ≠ nm) → ofW x nm = s) := Lib.hid fun i s h1 h2 h3 => by
    unfold ofW
    rw [find_first h1 (by simpa using h2) fun j z hj hz => by simpa using h3 j z hj hz]; rfl
  have FN : Hid ((∀ j z, j < x.ss.length → x.ss[j]? = some z → z.nm ≠ nm) → ofW x nm = ⟨[], none, 0, []⟩) := Lib.hid fun h => by
    unfold ofW
    rw [List.find?_eq_none.2 fun s hs => by
      obtain ⟨i, hi, e⟩ := List.mem_iff_getElem.1 hs
      have := h i s hi (by rw [List.getElem?_eq_getElem hi, e])
      simpa using this]; rfl
  generalize ofW x nm = r at *
  obtain ⟨znm, az, cz, es, sa, cs, ss⟩ := x
  have HX := Lib.hid hX
  obtain ⟨k, hk⟩ : ∃ k, ss.length = k := ⟨_, rfl⟩
  have hml : maxLen ≤ 9223372036854775807 := by decide
  have hk1 : k ≤ 9223372036854775807 := by have := hO.sz; simp only [] at this; omega
  have X0 := Lib.hid (BlkN.make (Below.refl w.heap.size w) #[.string ⟨znm.toArray⟩, .slice az es.length cz, .slice sa k cs] 27)
  obtain ⟨c0, c1, c2⟩ := cel3 X0.out.blk
  unfold wvV
  simp only [hk] at FY FN ⊢
  have HK := Lib.hid hk
  clear hX hO hk hml c0
  go_enter Tryz.func10, Tryz.ntmps10
  repeat (first | go_values | go_skip | go_guarded | go_step | go_upon | go_back)
  go_loopw [5] (fun vi wr => ∃ i : Nat, vi = .int .i64 i ∧ i ≤ k ∧ (∀ j z, j < i → ss[j]? = some z → z.nm ≠ nm) ∧ BlkN w w.heap.size #[.string ⟨znm.toArray⟩, .slice az es.length cz, .slice sa k cs] 27 wr) (fun vi _ => k - (intOf vi).toNat)
  case atStart => exact ⟨0, rfl, Nat.zero_le _, fun j z h => absurd h (by omega), X0.out⟩
  case round =>
    clear X0 c1 c2
    obtain ⟨i, rfl, i1, ha, hX⟩ := hrel
    obtain ⟨-, c1, c2⟩ := cel3 hX.blk
    have NA := Lib.hid ha
    have X := Lib.hid hX
    clear ha hX
    by_cases hlt : i < k
    · have hii : (i : Int) < (k : Int) := by omega
      have wi : IntKind.i64.wrap ((i : Int) + 1) = (i : Int) + 1 := IntWalk.i64_in _ (by omega)
      obtain ⟨s, hs⟩ : ∃ s, ss[i]? = some s := ⟨_, List.getElem?_eq_getElem (by rw [HK.out]; exact hlt)⟩
      obtain ⟨L, off, rfl, hL, s0, s1⟩ := set_cells (HX.out.ss.next X.out.bel) hs
      have HS := Lib.hid hs
      clear hs hL
      by_cases hq : s.nm = nm
      · have R := Lib.hid (FY.out i s HS.out hq NA.out)
        have hqb : (s.nm == nm) = true := by simpa using hq
        clear hq
        repeat (first | go_values | go_skip | go_guarded | go_step | go_upon | go_back)
        go_ret
        exact ⟨by rw [R.out]; rfl, X.out.bel⟩
      · have hqb : (s.nm == nm) = false := by simpa using hq
        have HQ := Lib.hid hq
        clear hq
        repeat (first | go_values | go_skip | go_guarded | go_step | go_upon | go_back)
        go_round
        case rel => exact ⟨i + 1, rfl, by omega, fun j z hj hz => by
          rcases Nat.lt_or_ge j i with h | h
          · exact NA.out j z h hz
          · obtain rfl : j = i := by omega
            rw [HS.out] at hz; cases hz; exact HQ.out, X.out⟩
        case measure => simp [intOf]; omega
    · obtain rfl : i = k := by omega
      have hii : ¬ ((i : Nat) : Int) < (i : Int) := by omega
      have R := Lib.hid (FN.out NA.out)
      repeat (first | go_values | go_skip | go_guarded | go_step | go_upon | go_back)
      go_ret
      exact ⟨by rw [R.out]; rfl, X.out.bel⟩
end Go.Proofs.YtdmfgechoanmlaaGreatDoor

namespace Go.Proofs.YtdmfgechoanmlaaGreatDoor
open Go Go.RowKit Go.ChangeShapes Go.WideShapes Go.ChangeAt

def Rw {H : Type} (enc : TypeId × Value → H) (W : World) (held : Bool) (t : TypeId) (cs : List Value) : Prop :=
  ∃ n d p, DataW.trod enc Tryz.prog W 0 (fun _ => true) held n t cs = some (d, p) ∧ ∀ k ∈ d.weights Tryz.prog t, k ≤ reachBytes
section
variable {H : Type} {enc : TypeId × Value → H} {W : World} {held : Bool} {t : TypeId}
theorem Rw.sub {cs : List Value} {fs : Array Field} (h : Rw enc W held t cs) (hu : Tryz.prog.underlying t = some (.struct fs)) (i : Nat) (f : Field) (hf : fs[i]? = some f) (u : TypeId) (ht : f.type = u) (o k : Nat) (ho : f.offset = o) (hk : Tryz.prog.cellsOf u = k) : Rw enc W held u ((cs.drop o).take k) := by
  obtain ⟨n, d, p, h, hw⟩ := h
  obtain ⟨xs, m, _, e, _, hlen, kk⟩ := DataW.trod_struct hu h
  obtain ⟨rfl, -⟩ := Prod.mk.inj e
  subst ht ho hk
  have hi : i < xs.length := by rw [hlen]; exact (Array.getElem?_eq_some_iff.1 hf).1
  refine ⟨m, xs[i].1, xs[i].2, (kk i f hf).trans (List.getElem?_eq_getElem hi), fun q hq => hw q ?_⟩
  have e2 : (DataW.agg (xs.map (·.1))).weights Tryz.prog t = DataW.weightsEach Tryz.prog (fs.toList.map (·.type)) (xs.map (·.1)) := by simp [DataW.weights, hu]
  rw [e2]
  exact DataW.weights_mem_each (j := i) (by rw [List.getElem?_map, Array.getElem?_toList, hf]; rfl) (by rw [List.getElem?_map, List.getElem?_eq_getElem hi]; rfl) q hq
theorem Rw.len {l : List UInt8} (h : Rw enc W held 9 [.string ⟨l.toArray⟩]) : l.length ≤ reachBytes := by
  obtain ⟨n, d, p, h, hw⟩ := h
  obtain ⟨s, e1, e2, -⟩ := DataW.trod_string Tryz.underlying9 h
  obtain ⟨rfl, -⟩ := Prod.mk.inj e2
  have e3 : (⟨l.toArray⟩ : ByteArray) = s := by simpa using e1
  subst e3
  exact hw _ (by simp [DataW.weights])
theorem wall_mem {P : Program} {e : TypeId} : ∀ {l : List (DataW H)} {d : DataW H}, d ∈ l → ∀ n ∈ d.weights P e, n ∈ DataW.weightsAll P e l
  | x :: l, d, h, n, hn => by
    rw [DataW.weightsAll, List.mem_append]
    rcases List.mem_cons.1 h with rfl | h
    · exact .inl hn
    · exact .inr (wall_mem h n hn)
theorem Rw.row {α : Type} {A : Option Addr} {l : List α} {cap : Nat} {e : TypeId} (h : Rw enc W held t [.slice A l.length cap]) (c : Nat) (f : α → Array Value) (hf : ∀ x, (f x).size = c) (hu : Tryz.prog.underlying t = some (.slice e)) (hc : Tryz.prog.cellsOf e = c) (hR : RowsAt c f A l W) : ∀ x ∈ l, Rw enc W held e (f x).toList := by
  intro x hx
  obtain ⟨i, hi, ex⟩ := List.mem_iff_getElem.1 hx
  have hxi : l[i]? = some x := by rw [List.getElem?_eq_getElem hi, ex]
  obtain ⟨L, off, rfl, hL, hcell⟩ := hR i x hxi
  obtain ⟨n, d, p, h, hw⟩ := h
  rcases DataW.trod_slice hu h with ⟨hcs, _⟩ | ⟨a, len', cap', elems, rest, m, _, hcs, hd, hb, hl, hm, hlen, hel, _⟩
  · simp at hcs
  · obtain ⟨rfl, -⟩ := Prod.mk.inj hd
    have e1 : a = ⟨L, off, none⟩ ∧ len' = l.length ∧ cap' = cap := by simpa [eq_comm] using hcs
    obtain ⟨rfl, rfl, rfl⟩ := e1
    have h1 := hel i hi
    have h2 : i < elems.length := by omega
    rw [List.getElem?_eq_getElem h2, hc, Option.bind_eq_some_iff] at h1
    obtain ⟨cs, hcs', hx'⟩ := h1
    have h4 := World.cells?_some hcs'
    have e2 : cs = (f x).toList := by
      refine List.ext_getElem? fun j => ?_
      by_cases hj : j < c
      · have h5 := h4.2.2 j (by omega)
        obtain ⟨u, hu'⟩ : ∃ u, (f x)[j]? = some u := ⟨_, Array.getElem?_eq_getElem (by rw [hf]; exact hj)⟩
        have h6 := hcell j u hj hu'
        rw [Go.WideShapes.add_plain, Go.WideShapes.add_plain, h6] at h5
        rw [show (f x).toList[j]? = (f x)[j]? by simp, hu', ← h5]
      · rw [List.getElem?_eq_none (by rw [h4.2.1]; omega), show (f x).toList[j]? = (f x)[j]? by simp, Array.getElem?_eq_none (by rw [hf]; omega)]
    subst e2
    refine ⟨m, elems[i].1, elems[i].2, hx', fun q hq => hw q ?_⟩
    have e3 : (DataW.slice (elems.map (·.1)) (rest.map (·.1))).weights Tryz.prog t = (elems.map (·.1)).length.add (rest.map (·.1)).length * Tryz.prog.bytesOf e :: (DataW.weightsAll Tryz.prog e (elems.map (·.1)) ++ DataW.weightsAll Tryz.prog e (rest.map (·.1))) := by simp [DataW.weights, hu]
    rw [e3]
    refine List.mem_cons_of_mem _ (List.mem_append_left _ (wall_mem (List.mem_map.2 ⟨elems[i], List.getElem_mem h2, rfl⟩) q hq))
set_option maxRecDepth 100000 in
/-- No letter of a world that came in is longer than what one string may take. -/
theorem letters_len {x : WV} {d : DataW H} {p : List MemPlace} (h : DataW.Trod enc Tryz.prog W 0 (fun _ => true) held 27 (wvV x) d p) (hw : ∀ k ∈ d.weights Tryz.prog 27, k ≤ reachBytes) (hX : WvAt x W) :
    ∀ s ∈ x.ss, ∀ r ∈ s.rs, r.lt.length ≤ 1000000000000000 := by
  obtain ⟨fuel, hf⟩ := h
  have R : Rw enc W held 27 [.string ⟨x.nm.toArray⟩, .slice x.az x.es.length x.cz, .slice x.sa x.ss.length x.cs] := ⟨fuel, d, p, by simpa [Value.cells, wvV] using hf, hw⟩
  have S : Rw enc W held 25 [.slice x.sa x.ss.length x.cs] := R.sub Tryz.underlying27 1 _ rfl 25 rfl 2 1 rfl (by kernel_rfl)
  intro s hs r hr
  have T := S.row 2 cS (fun _ => rfl) Tryz.underlying25 (by kernel_rfl) hX.ss s hs
  have U : Rw enc W held 80 [.slice s.a s.rs.length s.c] := T.sub Tryz.underlying82 1 _ rfl 80 rfl 1 1 rfl (by kernel_rfl)
  have V := U.row 11 cR (fun _ => rfl) Tryz.underlying80 (by kernel_rfl) (hX.rl s hs) r hr
  have L : Rw enc W held 9 [.string ⟨r.lt.toArray⟩] := V.sub Tryz.underlying112 7 _ rfl 9 rfl 10 1 rfl cStr
  exact Nat.le_trans L.len (by decide)
end
/-- A law whose condition is the laid tables, the world's shape kept, and how much there is of what came in. -/
theorem handed_sized {H : Type} {enc : TypeId × Value → H} {a : Assume} {C : Checked} {os : Os} {f : FuncId} {fn : Func} {s : ChangeSpec} {conds : List PathCond} {apart fresh handsOn again : Bool} {X : World → Array Value → Prop}
    (hX : ∀ (w w' : World) (args : Array Value), w.heap = w'.heap → X w args → X w' args)
    (own : ownKnob C.prog.godebug = none) (started : os.Started) (noInit : C.prog.inits.idxOf? f = none) (hfn : C.prog.funcs[f]? = some fn)
    (witness : ∃ (w : World) (tape : Tape) (i : Input), w.os = os ∧ (w.forCall tape i).Shaped C.prog ∧ i.vars = [] ∧ Input.okWide C.prog (w.forCall tape i) .any w.heap.size f i ∧
      ((s.pre enc C.prog fn conds apart (w.forCall tape i).memory i.args ∧ X (w.forCall tape i).memory i.args) ∧ sizedMet enc C.prog fn (OpenSpec.ofChange s) apart (w.forCall tape i).memory i.args) ∧ a.holds C.prog (lone (Frame.enter C.prog f i.args .normal) [] (w.forCall tape i)))
    (contract : ∀ (W : World) (base : Nat) (args : Array Value) (ds gs : List (DataW H)) (before : List MemPlace),
      (∀ (j : Nat) t v, fn.params[j]? = some t → args[j]? = some v → Value.okWide C.prog W .any base t v) →
      DataW.Whole enc C.prog fn.params.toList s.vars apart W args.toList ds gs before →
      W.ShapedOpen C.prog → X W args →
      (∀ (j : Nat) t d, fn.params[j]? = some t → ds[j]? = some d → ∀ k ∈ d.weights C.prog t, k ≤ reachBytes) →
      Calls C.prog f args W fun e W' => ∃ v, e = .returned v ∧ s.post enc C.prog fn apart fresh handsOn again W args v W') :
    ReturnsInHanded a C os f .any (fun w args => (s.pre enc C.prog fn conds apart w args ∧ X w args) ∧ sizedMet enc C.prog fn (OpenSpec.ofChange s) apart w args) (s.post enc C.prog fn apart fresh handsOn again) := by
  refine returnsInHanded_of_calls own started noInit witness ?_
  intro w tape i _ hsh _ hok hpre _
  obtain ⟨_, _, _, fn', hfn', _, _, _, _, hval⟩ := hok
  have e : fn' = fn := Option.some.inj (hfn'.symm.trans hfn)
  subst e
  obtain ⟨⟨⟨ds, gs, before, hw, _⟩, hx⟩, hz⟩ := hpre
  have hz' := hz.weights hw
  have hw' := DataW.Whole.of_heap (w' := w.forCall tape i) (by rfl) hw
  refine (contract (w.forCall tape i) w.heap.size i.args ds gs before hval hw' hsh (hX _ _ _ (by rfl) hx) fun j t d ht hd k hk => ?_).mono fun e W' ⟨v, he, hp⟩ => ?_
  · have := List.all_eq_true.1 hz' k (DataW.weights_mem_each (j := j) (by rw [List.getElem?_append_left (by rw [Array.length_toList]; exact (Array.getElem?_eq_some_iff.1 ht).1), Array.getElem?_toList, ht]) (by rw [List.getElem?_append_left (List.getElem?_eq_some_iff.1 hd).1, hd]) k hk)
    simpa using this
  · subst he
    exact ChangeSpec.post_blind hp
end Go.Proofs.YtdmfgechoanmlaaGreatDoor

namespace Go.Proofs.YtdmfgechoanmlaaGreatDoor
open Go Go.RowKit Go.Sort

/-- The rules of an era, of a world that is not too much. -/
structure RlsOk (z : SV) (w : World) : Prop where
  n6 : z.rs.length ≤ 6
  ok : ∀ r ∈ z.rs, okR r ∧ 1900 ≤ r.fr
  kd : ∀ r ∈ z.rs, 0 ≤ r.ck ∧ r.ck ≤ 2
  ap : Apt (rowF z.rs)
  rl : RowsAt 11 cR z.a z.rs w
  lt : ∀ r ∈ z.rs, r.lt.length ≤ 1000000000000000
theorem RlsOk.of {x : WV} {w : World} (hX : WvAt x w) (hF : FewW x) (hL : ∀ s ∈ x.ss, ∀ r ∈ s.rs, r.lt.length ≤ 1000000000000000) (nm : List UInt8) : RlsOk (ofW x nm) w := by
  rcases ofW_mem x nm with h | h
  · have f := hF.ss _ h
    exact ⟨f.1.1, f.ok, fun r hr => by have := f.1.2 r hr; unfold SmR at this; omega, f.2.2, hX.rl _ h, hL _ h⟩
  · rw [h]
    refine ⟨Nat.zero_le _, fun r hr => (by cases hr), fun r hr => (by cases hr), ?_, fun k y hk => (by simp at hk), fun r hr => (by cases hr)⟩
    have e : rowF [] = [] := by unfold rowF allF; rfl
    show Apt (rowF [])
    rw [e]
    exact ⟨fun f hf => (by cases hf), List.Pairwise.nil⟩
def psW (z : SV) : List PV := iso ltP (allN z.rs 1890 2110 z.rs.length)
theorem psW_fst (z : SV) : (psW z).map Prod.fst = rowF z.rs := by
  unfold psW rowF
  rw [iso_fst, allN_fst (Nat.le_refl _), List.take_of_length_le (Nat.le_refl _)]
theorem RlsOk.row {z : SV} {w : World} (h : RlsOk z w) : (psW z).length ≤ 1000000 ∧ ∀ q ∈ psW z, (0 ≤ q.1.kd ∧ q.1.kd ≤ 2) ∧ (-90000 < q.1.sv ∧ q.1.sv < 90000) ∧ -3000000000 ≤ q.1.nm ∧ q.1.nm < 5000000000 := by
  constructor
  · have e : (psW z).length = (rowF z.rs).length := by rw [← psW_fst, List.length_map]
    have := allF_len (rs := z.rs) (a := 1890) (b := 2110) (by omega)
    have := h.n6
    rw [e]; unfold rowF; rw [iso_len]; omega
  · intro q hq
    have hm : q.1 ∈ rowF z.rs := by rw [← psW_fst]; exact List.mem_map.2 ⟨q, hq, rfl⟩
    refine ⟨?_, h.ap.1 _ hm, row_bd h.ok hm⟩
    obtain ⟨r, hr, y, -, -, -, e⟩ := row_mem.1 hm
    rw [e]
    exact h.kd r hr
theorem ltrL_mem {rs : List RV} {n : Nat} : ltrL rs n = [] ∨ ∃ r ∈ rs, ltrL rs n = r.lt := by
  unfold ltrL
  cases h : bst rs n with
  | none => exact .inl rfl
  | some p => exact .inr ⟨p.2, List.mem_of_getElem? (bst_is (k := p.1) (q := p.2) h).2, rfl⟩
theorem RlsOk.ltW {z : SV} {w : World} (h : RlsOk z w) (e : EV) (t : Int) : (ltW e z.rs z.rs.length t).length ≤ 1000000000000000 := by
  unfold Go.Proofs.YtdmfgechoanmlaaGreatDoor.ltW
  split
  · simp
  · cases hl : latF e.of t 0 none (rowF z.rs) with
    | none =>
      show (ltrL z.rs z.rs.length).length ≤ _
      rcases ltrL_mem (rs := z.rs) (n := z.rs.length) with h1 | ⟨r, hr, h1⟩
      · rw [h1]; simp
      · rw [h1]; exact h.lt r hr
    | some f =>
      rcases lat_mem e.of t _ _ _ f hl with h1 | h1
      · obtain ⟨r, hr, y, -, -, -, e1⟩ := row_mem.1 h1
        show f.lt.length ≤ _
        rw [e1]; exact h.lt r hr
      · cases h1
theorem RlsOk.svW {z : SV} {w : World} (h : RlsOk z w) (e : EV) (t : Int) (v1 : -90000 < e.sv) (v2 : e.sv < 90000) : -90000 < svW e z.rs t ∧ svW e z.rs t < 90000 := by
  unfold Go.Proofs.YtdmfgechoanmlaaGreatDoor.svW
  split
  · exact ⟨v1, v2⟩
  · exact svO_bd h.ap e.of t
def svN (e : EV) (rs : List RV) : Int := if e.rl.isEmpty then e.sv else svE e.of (nmU e) 0 (rowF rs)
theorem RlsOk.svN {z : SV} {w : World} (h : RlsOk z w) (e : EV) (v1 : -90000 < e.sv) (v2 : e.sv < 90000) : -90000 < svN e z.rs ∧ svN e z.rs < 90000 := by
  unfold Go.Proofs.YtdmfgechoanmlaaGreatDoor.svN
  split
  · exact ⟨v1, v2⟩
  · exact svE_bd _ _ (by omega) (by omega) h.ap.1
/-- An era that may be asked for what it shows. -/
structure EraOk (e : EV) : Prop where
  few : FewE e
  o1 : -90000 < e.of
  o2 : e.of < 90000
  v1 : -90000 < e.sv
  v2 : e.sv < 90000
  k1 : 0 ≤ e.ck
  k2 : e.ck ≤ 2
theorem EraOk.nom {e : EV} (h : EraOk e) (he : e.en = true) : NomOk e ↔ e.dn ≤ dim e.uy e.um := by
  obtain ⟨y1, y2, m1, m2, s1, s2, hd⟩ := h.few.2 he
  constructor
  · exact fun hn => hn.2.2.1.2.1.2.2.2.2
  · intro hn
    exact ⟨h.k1, h.k2, ⟨hd, ⟨by omega, by omega, m1, m2, hn⟩, tgt_in hd ⟨by omega, by omega⟩ m1 m2 hn⟩, by omega, by omega⟩
theorem EraOk.bd {e : EV} (h : EraOk e) (he : e.en = true) (hn : e.dn ≤ dim e.uy e.um) : ((ny e.uy - 20) * 86400 ≤ nmU e ∧ nmU e ≤ (ny e.uy + 380) * 86400) ∧ -100000000 ≤ tgtD e.dk e.dw e.dn e.uy e.um ∧ tgtD e.dk e.dw e.dn e.uy e.um ≤ 100000000 := by
  obtain ⟨y1, y2, m1, m2, s1, s2, hd⟩ := h.few.2 he
  refine ⟨nmU_bd hd m1 m2 hn s1 s2, ?_⟩
  have := tgt_near hd (⟨by omega, by omega⟩ : nrY e.uy) m1 m2 hn
  omega
/-- What the document's answer tells of an era's end. -/
structure EndA (e : EV) (z : SV) (a v : Int) (there : Bool) : Prop where
  way : (e.en = false ∧ a = 0 ∧ v = 16) ∨ (e.en = true ∧ there = false ∧ a = 0 ∧ v = 10) ∨ (e.en = true ∧ there = true ∧ v = 0 ∧ a = enN e (Go.Proofs.YtdmfgechoanmlaaGreatDoor.svN e z.rs))
theorem zend_all (e : EV) (z : SV) (w : World) (hA : LaidF w) (hE : EraOk e) (hz : RlsOk z w) :
    ∃ (a v : Int) (there : Bool), EndA e z a v there ∧ (∀ W, Below w.heap.size w W → Calls Tryz.prog 56 #[evV e, .slice z.a z.rs.length z.c] W fun x w' => x = .returned (.tuple #[.int .i64 a, .int .i64 v]) ∧ Below W.heap.size W w') ∧
      (e.en = true → ∃ n : Int, (there = true → n = nmU e) ∧ ∀ W, Calls Tryz.prog 29 #[uvV e] W fun x w' => x = .returned (.tuple #[.int .i64 n, .bool there]) ∧ Below W.heap.size W w') ∧
      (e.en = true → there = true → ∀ W v', POut v' (psW z) W → Calls Tryz.prog 30 #[evV e, .agg #[v', .string ⟨(ltrL z.rs z.rs.length).toArray⟩]] W fun x w' => x = .returned (.int .i64 a) ∧ Below W.heap.size W w') := by
  have hs := hz.svN e hE.v1 hE.v2
  by_cases he : e.en = true
  · obtain ⟨y1, y2, m1, m2, s1, s2, hd⟩ := hE.few.2 he
    by_cases hn : e.dn ≤ dim e.uy e.um
    · obtain ⟨⟨n1, n2⟩, t1, t2⟩ := hE.bd he hn
      have hok : NomOk e := (hE.nom he).2 hn
      have hP : EndP z.rs.length z.rs e := ⟨rfl, by have := hz.n6; omega, hz.ok, hz.ap, hE.o1, hE.o2, y1, y2, n1, n2⟩
      have hfar := hP.far
      have NM : ∀ W, Calls Tryz.prog 29 #[uvV e] W fun x w' => x = .returned (.tuple #[.int .i64 (nmU e), .bool true]) ∧ Below W.heap.size W w' := fun W =>
        rnom_is e (tgtD e.dk e.dw e.dn e.uy e.um) (nmU e) true W (Lib.hid fun W' => xday_yes e.dk e.dw e.dn e.uy e.um _ W' (by omega) (by omega) m1 m2 hd hn rfl) ⟨t1, t2⟩ (by omega) (by omega) (by unfold nmU; omega)
      refine ⟨enN e (svN e z.rs), 0, true, ⟨.inr (.inr ⟨he, rfl, rfl, rfl⟩)⟩, fun W k => ?_, fun _ => ⟨nmU e, fun _ => rfl, NM⟩, fun _ _ W v' hv => ?_⟩
      · refine zend_is e _ (svN e z.rs) _ 0 W (hA.next k) (Lib.hid fun _ _ _ W' k' => ?_) hE.o1 hE.o2 hs.1 hs.2 (fun _ => by omega) (Lib.hid (.inr (.inr ⟨he, hok, rfl, rfl⟩)))
        have kk := bthen k k'
        by_cases hr : e.rl.isEmpty = true
        · have := sahead_no e (.slice z.a z.rs.length z.c) (nmU e) W' hr
          unfold Go.Proofs.YtdmfgechoanmlaaGreatDoor.svN
          rw [if_pos hr]; exact this
        · exact sahead_ruled e z.a z.rs.length z.c z.rs _ W' (by simpa using hr) (hA.next kk) (hz.rl.next kk) hP (by unfold Go.Proofs.YtdmfgechoanmlaaGreatDoor.svN; rw [if_neg hr])
      · exact rend_is e v' _ (psW z) (svN e z.rs) _ W hv (Lib.hid ⟨hz.row.1, by omega, by omega, ⟨t1, t2⟩, hE.o1, hE.o2, hE.k1, hE.k2, hs.1, hs.2, hz.row.2, by rw [psW_fst]; rfl, rfl⟩) (Lib.hid NM)
    · have hok : ¬ NomOk e := fun h => hn ((hE.nom he).1 h)
      refine ⟨0, 10, false, ⟨.inr (.inl ⟨he, rfl, rfl, rfl⟩)⟩, fun W k => ?_, fun _ => ⟨e.sc, fun h => (by cases h), fun W => ?_⟩, fun _ h => (by cases h)⟩
      · exact zend_is e _ (svN e z.rs) 0 10 W (hA.next k) (Lib.hid fun h => absurd h hok) hE.o1 hE.o2 hs.1 hs.2 (fun h => absurd h hok) (Lib.hid (.inr (.inl ⟨he, hok, rfl, rfl⟩)))
      · exact rnom_is e 0 e.sc false W (Lib.hid fun W' => xday_no e.dk e.dw e.dn e.uy e.um W' (by omega) (by omega) m1 m2 hd (by omega)) ⟨by omega, by omega⟩ (by omega) (by omega) (by omega)
  · have heb : e.en = false := by simpa using he
    refine ⟨0, 16, false, ⟨.inl ⟨heb, rfl, rfl⟩⟩, fun W k => ?_, fun h => absurd h he, fun h => absurd h he⟩
    exact zend_is e _ 0 0 16 W (hA.next k) (Lib.hid fun _ h => absurd h he) hE.o1 hE.o2 (by omega) (by omega) (fun h => by have h1 := h.2.2.1.2.2; have h2 := h.2.2.2; unfold inR at h1; unfold nmU; omega) (Lib.hid (.inl ⟨heb, rfl, rfl⟩))
end Go.Proofs.YtdmfgechoanmlaaGreatDoor
