/- A world of the laws of zones: a zone's name and eras, and sets of rules; one that is handed over, opened. -/
import Derived.Test.YtdmfgechoanmlaaGreatDoorMZQ
namespace Go.Proofs.YtdmfgechoanmlaaGreatDoor
open Go Go.RowKit Go.ChangeShapes Go.WideShapes Go.ChangeAt

set_option maxRecDepth 20000 in
/-- A slice of structs that is part of what came in. -/
theorem rd_structs {α : Type} {H : Type} {enc : TypeId × Value → H} {W : World} {held : Bool} {v : Value} {t e : TypeId} (c : Nat) (hc0 : 0 < c) (f : α → Array Value) (Q : α → Prop) (hu : Tryz.prog.underlying t = some (.slice e)) (hc : Tryz.prog.cellsOf e = c) (hf : ∀ x, (f x).size = c)
    (rd : ∀ n cs y, cs.length = c → DataW.trod enc Tryz.prog W 0 (fun _ => true) held n e cs = some y → ∃ x : α, cs = (f x).toList ∧ Q x) (h : Rd enc W (fun _ => true) held t [v]) :
    ∃ (l : List α) (a : Option Addr) (cap : Nat), v = .slice a l.length cap ∧ l.length ≤ cap ∧ cap ≤ maxLen ∧ RowsAt c f a l W ∧ ∀ x ∈ l, Q x := by
  obtain ⟨fuel, y0, hfu⟩ := h
  rcases DataW.trod_slice hu hfu with ⟨hcs, _⟩ | ⟨x, len', cap', elems, rest, n, _, hcs, _, hb, hl, hm, hlen, hel, _⟩
  · obtain rfl : v = .slice none 0 0 := by simpa using hcs
    exact ⟨[], none, 0, rfl, Nat.le_refl _, Nat.zero_le _, fun k y hk => by simp at hk, by simp⟩
  · obtain rfl : v = .slice (some x) len' cap' := by simpa using hcs
    have each : ∀ i, i < len' → ∃ y : α, (∀ j u, j < c → (f y)[j]? = some u → W.cell? ((x.add (i * c)).add j) = some u) ∧ Q y := by
      intro i hi
      have h1 := hel i hi
      have h2 : i < elems.length := by omega
      rw [List.getElem?_eq_getElem h2, hc, Option.bind_eq_some_iff] at h1
      obtain ⟨cs, hcs, hx⟩ := h1
      have h4 := World.cells?_some hcs
      obtain ⟨y, hy, hq⟩ := rd _ _ _ h4.2.1 hx
      refine ⟨y, fun j u hj hu => ?_, hq⟩
      have := h4.2.2 j (by omega)
      rw [this, hy]
      simpa using hu
    obtain ⟨g, hg⟩ : ∃ g : Nat → Option α, ∀ i, i < len' → ∃ y, g i = some y ∧ (∀ j u, j < c → (f y)[j]? = some u → W.cell? ((x.add (i * c)).add j) = some u) ∧ Q y := by
      refine ⟨fun i => if h : i < len' then some (Classical.choose (each i h)) else none, fun i hi => ?_⟩
      have := Classical.choose_spec (each i hi)
      simp only [dif_pos hi]
      exact ⟨_, rfl, this⟩
    have hsome : ∀ i, i < len' → (g i).isSome = true := fun i hi => by obtain ⟨y, e, -⟩ := hg i hi; rw [e]; rfl
    have hll : ((List.range len').filterMap g).length = len' ∧ ∀ i, i < len' → ((List.range len').filterMap g)[i]? = g i := by
      have key : ∀ m, m ≤ len' → ((List.range m).filterMap g).length = m ∧ ∀ i, i < m → ((List.range m).filterMap g)[i]? = g i := by
        intro m
        induction m with
        | zero => intro _; exact ⟨rfl, fun i hi => by omega⟩
        | succ m ih =>
          intro hm
          obtain ⟨i1, i2⟩ := ih (by omega)
          obtain ⟨y, e, -⟩ := hg m (by omega)
          rw [List.range_succ, List.filterMap_append]
          have e1 : [m].filterMap g = [y] := by simp [e]
          rw [e1]
          refine ⟨by rw [List.length_append, i1]; rfl, fun i hi => ?_⟩
          by_cases h : i < m
          · rw [List.getElem?_append_left (by omega)]; exact i2 i h
          · obtain rfl : i = m := by omega
            rw [List.getElem?_append_right (by omega), i1, Nat.sub_self, e]; rfl
      exact key len' (Nat.le_refl _)
    refine ⟨(List.range len').filterMap g, some x, cap', by rw [hll.1], by rw [hll.1]; exact hl, hm, ?_, ?_⟩
    · intro i y hy
      have hi : i < len' := by have := (List.getElem?_eq_some_iff.1 hy).1; rwa [hll.1] at this
      rw [hll.2 i hi] at hy
      obtain ⟨y', e, hcell, -⟩ := hg i hi
      rw [e] at hy; injection hy with hy; subst hy
      obtain ⟨u0, hu0⟩ : ∃ u, (f y')[0]? = some u := ⟨_, Array.getElem?_eq_getElem (by rw [hf]; exact hc0)⟩
      have h0 := hcell 0 u0 hc0 hu0
      have hs : x.spot = none := by
        obtain ⟨z, -, hz, -⟩ := hg 0 (by omega)
        obtain ⟨u1, hu1⟩ : ∃ u, (f z)[0]? = some u := ⟨_, Array.getElem?_eq_getElem (by rw [hf]; exact hc0)⟩
        have h1 := hz 0 u1 hc0 hu1
        rw [Nat.zero_mul, show x.add 0 = x by simp [Addr.add], show x.add 0 = x by simp [Addr.add]] at h1
        exact World.cell?_spot h1
      obtain ⟨b, off, spot⟩ := x
      have hs' : spot = none := hs
      subst hs'
      rw [Go.WideShapes.add_plain, Go.WideShapes.add_plain] at h0
      refine ⟨b, off, rfl, cell_lt h0, fun j u hj hu => ?_⟩
      have := hcell j u hj hu
      rwa [Go.WideShapes.add_plain, Go.WideShapes.add_plain] at this
    · intro y hy
      obtain ⟨i, hi, e⟩ := List.mem_iff_getElem.1 hy
      rw [hll.1] at hi
      obtain ⟨y', e', -, hq⟩ := hg i hi
      have := hll.2 i hi
      rw [List.getElem?_eq_getElem (by rw [hll.1]; exact hi), e, e'] at this
      injection this with this; rw [this]; exact hq
/-- A set of rules: its name, and its rules' place. -/
structure SV where
  nm : List UInt8
  a : Option Addr
  c : Nat
  rs : List RV
def cS (s : SV) : Array Value := #[.string ⟨s.nm.toArray⟩, .slice s.a s.rs.length s.c]
/-- A world: a zone, and sets. -/
structure WV where
  nm : List UInt8
  az : Option Addr
  cz : Nat
  es : List EV
  sa : Option Addr
  cs : Nat
  ss : List SV
def wvV (x : WV) : Value := .agg #[.string ⟨x.nm.toArray⟩, .slice x.az x.es.length x.cz, .slice x.sa x.ss.length x.cs]
def w0V : WV := ⟨[], none, 0, [], none, 0, []⟩
/-- What lies in memory of it. -/
structure WvAt (x : WV) (W : World) : Prop where
  es : RowsAt 12 cE x.az x.es W
  ss : RowsAt 2 cS x.sa x.ss W
  rl : ∀ s ∈ x.ss, RowsAt 11 cR s.a s.rs W
structure WvOk (x : WV) : Prop where
  ez : x.es.length ≤ maxLen
  sz : x.ss.length ≤ maxLen
  rz : ∀ s ∈ x.ss, s.rs.length ≤ maxLen ∧ ∀ r ∈ s.rs, in64' r.fr ∧ in64' r.tl
  en : ∀ e ∈ x.es, in64' e.of ∧ in64' e.sv
theorem WvAt.next {x : WV} {W W' : World} (h : WvAt x W) (k : Below W.heap.size W W') : WvAt x W' := ⟨h.es.next k, h.ss.next k, fun s hs => (h.rl s hs).next k⟩
set_option maxRecDepth 100000 in
theorem rd_set {H : Type} {enc : TypeId × Value → H} {W : World} {held : Bool} {cs : List Value} (hl : cs.length = 2) (R : Rd enc W (fun _ => true) held 82 cs) :
    ∃ x : SV, cs = (cS x).toList ∧ RowsAt 11 cR x.a x.rs W ∧ x.rs.length ≤ maxLen ∧ ∀ r ∈ x.rs, in64' r.fr ∧ in64' r.tl := by
  obtain ⟨c0, c1, rfl⟩ : ∃ c0 c1, cs = [c0, c1] := by
    match cs, hl with
    | [c0, c1], _ => exact ⟨c0, c1, rfl⟩
  obtain ⟨nm, rfl⟩ := Rd.str (v := c0) (R.sub Tryz.underlying82 0 _ rfl 9 rfl 0 1 rfl cStr)
  have R1 : Rd enc W (fun _ => true) held 80 [c1] := R.sub Tryz.underlying82 1 _ rfl 80 rfl 1 1 rfl (by kernel_rfl)
  obtain ⟨l, a, cap, rfl, h1, h2, h3, h4⟩ := rd_structs 11 (by omega) cR (fun x => in64' x.fr ∧ in64' x.tl) Tryz.underlying80 (by kernel_rfl) (fun _ => rfl) (fun n cs y hl hx => rd_rule hl ⟨n, y, hx⟩) R1
  exact ⟨⟨nm, a, cap, l⟩, rfl, h3, Nat.le_trans h1 h2, h4⟩
set_option maxRecDepth 100000 in
theorem open_world {H : Type} {enc : TypeId × Value → H} {W : World} {held : Bool} {r : Reach} {b0 : Nat} {v : Value} {d : DataW H} {p : List MemPlace} (hv : Value.okWide Tryz.prog W r b0 27 v) (h : DataW.Trod enc Tryz.prog W 0 (fun _ => true) held 27 v d p) :
    ∃ x : WV, v = wvV x ∧ WvAt x W ∧ WvOk x := by
  obtain ⟨cs, rfl, hsz⟩ := okWide_struct Tryz.underlying27 hv
  obtain ⟨fuel, hf⟩ := h
  have R : Rd enc W (fun _ => true) held 27 cs.toList := ⟨fuel, _, by simpa [Value.cells] using hf⟩
  have hl : cs.toList.length = 3 := by rw [Array.length_toList, hsz]; kernel_rfl
  obtain ⟨l⟩ := cs
  obtain ⟨c0, c1, c2, rfl⟩ : ∃ c0 c1 c2, l = [c0, c1, c2] := by
    match l, hl with
    | [c0, c1, c2], _ => exact ⟨c0, c1, c2, rfl⟩
  have Z : Rd enc W (fun _ => true) held 24 [c0, c1] := R.sub Tryz.underlying27 0 _ rfl 24 rfl 0 2 rfl (by kernel_rfl)
  obtain ⟨nm, rfl⟩ := Rd.str (v := c0) (Z.sub Tryz.underlying24 0 _ rfl 9 rfl 0 1 rfl cStr)
  have E : Rd enc W (fun _ => true) held 22 [c1] := Z.sub Tryz.underlying24 1 _ rfl 22 rfl 1 1 rfl (by kernel_rfl)
  have S : Rd enc W (fun _ => true) held 25 [c2] := R.sub Tryz.underlying27 1 _ rfl 25 rfl 2 1 rfl (by kernel_rfl)
  obtain ⟨es, az, cz, rfl, e1, e2, e3, e4⟩ := rd_structs 12 (by omega) cE (fun x => in64' x.of ∧ in64' x.sv) Tryz.underlying22 (by kernel_rfl) (fun _ => rfl) (fun n cs y hl hx => rd_era hl ⟨n, y, hx⟩) E
  obtain ⟨ss, sa, cs, rfl, s1, s2, s3, s4⟩ := rd_structs 2 (by omega) cS (fun x => RowsAt 11 cR x.a x.rs W ∧ x.rs.length ≤ maxLen ∧ ∀ r ∈ x.rs, in64' r.fr ∧ in64' r.tl) Tryz.underlying25 (by kernel_rfl) (fun _ => rfl) (fun n cs y hl hx => rd_set hl ⟨n, y, hx⟩) S
  exact ⟨⟨nm, az, cz, es, sa, cs, ss⟩, rfl, ⟨e3, s3, fun s hs => (s4 s hs).1⟩, ⟨Nat.le_trans e1 e2, Nat.le_trans s1 s2, fun s hs => (s4 s hs).2, e4⟩⟩
end Go.Proofs.YtdmfgechoanmlaaGreatDoor
