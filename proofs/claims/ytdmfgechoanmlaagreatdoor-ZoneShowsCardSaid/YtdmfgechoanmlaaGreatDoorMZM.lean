/- Firings in a row that are apart: rows are told by what is in them; the last one whose instant is no greater than one: plain facts; no program is named.
Summers, and which firings some years tell of a stretch: plain facts; no program is named. -/
import Derived.Test.YtdmfgechoanmlaaGreatDoorMZI
import Derived.Test.YtdmfgechoanmlaaGreatDoorMZL
namespace Go.Proofs.YtdmfgechoanmlaaGreatDoor
open Go Go.RowKit Go.Sort

def Ris (l : List FV) : Prop := l.Pairwise fun a b => a.nm < b.nm
theorem ris_ext : ∀ {A B : List FV}, Ris A → Ris B → (∀ f, f ∈ A ↔ f ∈ B) → A = B
  | [], [], _, _, _ => rfl
  | [], b :: B, _, _, h => absurd ((h b).2 (by simp)) (by simp)
  | a :: A, [], _, _, h => absurd ((h a).1 (by simp)) (by simp)
  | a :: A, b :: B, hA, hB, h => by
    have hA1 := (List.pairwise_cons.1 hA).1
    have hB1 := (List.pairwise_cons.1 hB).1
    have e : a = b := by
      rcases List.mem_cons.1 ((h a).1 (by simp)) with h1 | h1
      · exact h1
      · rcases List.mem_cons.1 ((h b).2 (by simp)) with h2 | h2
        · exact h2.symm
        · have := hB1 a h1; have := hA1 b h2; omega
    subst e
    rw [ris_ext (List.pairwise_cons.1 hA).2 (List.pairwise_cons.1 hB).2 fun f => ⟨fun hf => by
      rcases List.mem_cons.1 ((h f).1 (List.mem_cons_of_mem _ hf)) with h1 | h1
      · subst h1; have := hA1 f hf; omega
      · exact h1, fun hf => by
      rcases List.mem_cons.1 ((h f).2 (List.mem_cons_of_mem _ hf)) with h1 | h1
      · subst h1; have := hB1 f hf; omega
      · exact h1⟩]
/-- Firings apart, none of which saves too much. -/
def Apt (L : List FV) : Prop := (∀ f ∈ L, -90000 < f.sv ∧ f.sv < 90000) ∧ L.Pairwise fun a b => a.nm + 180000 < b.nm
theorem Apt.ris {L : List FV} (h : Apt L) : Ris L := h.2.imp fun h => by omega
/-- The document's row. -/
def rowF (rs : List RV) : List FV := iso (ltOf cfF) (allF rs 1890 2110)
def win (L : List FV) (lo hi : Int) : List FV := L.filter fun f => decide (lo ≤ f.nm ∧ f.nm < hi)
theorem win_mem {L : List FV} {lo hi : Int} {f : FV} : f ∈ win L lo hi ↔ f ∈ L ∧ lo ≤ f.nm ∧ f.nm < hi := by simp [win]
theorem win_ris {L : List FV} (h : Ris L) (lo hi : Int) : Ris (win L lo hi) := h.sublist (List.filter_sublist ..)
theorem win_app {L : List FV} (h : Ris L) {a b c : Int} (h1 : a ≤ b) (h2 : b ≤ c) : win L a b ++ win L b c = win L a c := by
  refine ris_ext (List.pairwise_append.2 ⟨win_ris h _ _, win_ris h _ _, fun x hx y hy => ?_⟩) (win_ris h _ _) fun f => ?_
  · have := (win_mem.1 hx).2; have := (win_mem.1 hy).2; omega
  · rw [List.mem_append, win_mem, win_mem, win_mem]
    constructor
    · rintro (⟨a, b, c⟩ | ⟨a, b, c⟩) <;> exact ⟨a, by omega, by omega⟩
    · rintro ⟨a, b', c'⟩
      by_cases hb : f.nm < b
      · exact .inl ⟨a, b', hb⟩
      · exact .inr ⟨a, by omega, c'⟩
theorem win_none {L : List FV} {a b : Int} (h : b ≤ a) : win L a b = [] := by
  unfold win
  rw [List.filter_eq_nil_iff]
  intro f _ hf
  simp at hf
  omega

theorem zrL_add (r : RV) (F : Int) (d n : Nat) : frL r F (d + n) = frL r F d ++ frL r (F + d) n := by
  induction n with
  | zero => simp [frL]
  | succ n ih =>
    rw [← Nat.add_assoc, frL, ih, frL, List.append_assoc, show F + ((d + n : Nat) : Int) = F + (d : Int) + (n : Int) by omega]
theorem frA_sub {r : RV} {a b : Int} (ha : 1890 ≤ a) (hb : b ≤ 2110) : List.Sublist (frA r a b) (frA r 1890 2110) := by
  unfold frA
  generalize hF : max (max a r.fr) (-100000) = F
  generalize hN : (min (min b r.tl) 100000 + 1 - F).toNat = N
  generalize hG : max (max 1890 r.fr) (-100000) = G
  generalize hM : (min (min 2110 r.tl) 100000 + 1 - G).toNat = M
  by_cases h0 : N = 0
  · rw [h0]; exact List.nil_sublist _
  · have e : M = (F - G).toNat + (N + (M - ((F - G).toNat + N))) := by omega
    rw [e, zrL_add, show G + (((F - G).toNat : Nat) : Int) = F by omega, zrL_add]
    exact (List.sublist_append_left _ _).trans (List.sublist_append_right _ _)
theorem allF_sub {a b : Int} (ha : 1890 ≤ a) (hb : b ≤ 2110) : ∀ rs : List RV, List.Sublist (allF rs a b) (allF rs 1890 2110)
  | [] => List.Sublist.refl _
  | _ :: rs => List.Sublist.append ((frA_sub ha hb).map _) (allF_sub ha hb rs)
theorem frA_mem {r : RV} {a b : Int} {f : FV} (h0 : -100000 ≤ a) (h1 : b ≤ 100000) : f ∈ (frA r a b).map Prod.snd ↔ ∃ y, a ≤ y ∧ y ≤ b ∧ frY r y ∧ f = frF r y := by
  rw [List.mem_map]
  constructor
  · rintro ⟨⟨y, g⟩, hx, rfl⟩
    unfold frA at hx
    obtain ⟨p1, p2, p3, p4⟩ := frL_mem hx
    simp only at p1 p2 p3 p4
    exact ⟨y, by omega, by omega, p3, p4⟩
  · rintro ⟨y, p1, p2, p3, rfl⟩
    refine ⟨(y, frF r y), ?_, rfl⟩
    unfold frA
    have q1 := p3.1
    have q2 := p3.2.1
    generalize hF : max (max a r.fr) (-100000) = F
    generalize hN : (min (min b r.tl) 100000 + 1 - F).toNat = N
    have hin : ∀ (n : Nat) (z : Int), F ≤ z → z < F + n → frY r z → (z, frF r z) ∈ frL r F n := by
      intro n
      induction n with
      | zero => intro z h1 h2; omega
      | succ n ih =>
        intro z h1 h2 hz
        rw [frL, List.mem_append]
        by_cases h : z = F + n
        · right; rw [if_pos (h ▸ hz), h]; simp
        · left; exact ih z h1 (by omega) hz
    exact hin N y (by omega) (by omega) p3
theorem allF_mem {rs : List RV} {a b : Int} {f : FV} (h0 : -100000 ≤ a) (h1 : b ≤ 100000) : f ∈ allF rs a b ↔ ∃ r ∈ rs, ∃ y, a ≤ y ∧ y ≤ b ∧ frY r y ∧ f = frF r y := by
  unfold allF
  rw [List.mem_flatMap]
  constructor
  · rintro ⟨r, hr, hf⟩
    obtain ⟨y, h⟩ := (frA_mem h0 h1).1 hf
    exact ⟨r, hr, y, h⟩
  · rintro ⟨r, hr, y, h⟩
    exact ⟨r, hr, (frA_mem h0 h1).2 ⟨y, h⟩⟩
theorem row_mem {rs : List RV} {f : FV} : f ∈ rowF rs ↔ ∃ r ∈ rs, ∃ y, 1890 ≤ y ∧ y ≤ 2110 ∧ frY r y ∧ f = frF r y := by
  unfold rowF
  rw [iso_mem]; exact allF_mem (by omega) (by omega)
/-- Some years' firings, in order, rise. -/
theorem chk_ris {rs : List RV} (hL : Ris (rowF rs)) {a b : Int} (ha : 1890 ≤ a) (hb : b ≤ 2110) : Ris (iso (ltOf cfF) (allF rs a b)) := by
  have h1 : (allF rs 1890 2110).Pairwise fun x y => x.nm ≠ y.nm := by
    refine (List.Perm.pairwise_iff (fun h => h.symm) (iso_perm (lt := ltOf cfF) (allF rs 1890 2110))).1 (hL.imp fun h => by omega)
  have h2 := h1.sublist (allF_sub ha hb rs)
  have h3 := (List.Perm.pairwise_iff (R := fun x y : FV => x.nm ≠ y.nm) (fun h => h.symm) (iso_perm (lt := ltOf cfF) (allF rs a b))).2 h2
  have h4 := iso_srt wordF (allF rs a b)
  refine (h3.and h4).imp fun ⟨p, q⟩ => ?_
  rw [lt_cfF] at q
  simp at q
  omega
theorem chk_win {rs : List RV} (hL : Ris (rowF rs)) {a b lo hi : Int} (ha : 1890 ≤ a) (hb : b ≤ 2110) (h : ∀ r ∈ rs, ∀ y, frY r y → lo ≤ (frF r y).nm → (frF r y).nm < hi → a ≤ y ∧ y ≤ b) :
    win (iso (ltOf cfF) (allF rs a b)) lo hi = win (rowF rs) lo hi := by
  refine ris_ext (win_ris (chk_ris hL ha hb) _ _) (win_ris hL _ _) fun f => ?_
  rw [win_mem, win_mem, iso_mem, allF_mem (by omega) (by omega), row_mem]
  constructor
  · rintro ⟨⟨r, hr, y, h1, h2, h3, h4⟩, h5, h6⟩
    exact ⟨⟨r, hr, y, by omega, by omega, h3, h4⟩, h5, h6⟩
  · rintro ⟨⟨r, hr, y, h1, h2, h3, rfl⟩, h5, h6⟩
    exact ⟨⟨r, hr, y, (h r hr y h3 h5 h6).1, (h r hr y h3 h5 h6).2, h3, rfl⟩, h5, h6⟩

/-- A firing's instant. -/
def inF (f : FV) (off sv : Int) : Int := if f.kd = 0 then f.nm - off - sv else if f.kd = 1 then f.nm - off else f.nm
/-- The last one whose instant is no greater than t. -/
def latF (off t : Int) : Int → Option FV → List FV → Option FV
  | _, best, [] => best
  | sv, best, f :: l => latF off t f.sv (if inF f off sv ≤ t then some f else best) l
def lastO (best : Option FV) (l : List FV) : Option FV := match l.getLast? with | some f => some f | none => best
def lastS (sv : Int) (l : List FV) : Int := match l.getLast? with | some f => f.sv | none => sv
theorem lastO_cons (best : Option FV) (f : FV) (l : List FV) : lastO best (f :: l) = lastO (some f) l := by
  unfold lastO
  cases l with
  | nil => rfl
  | cons g l => rw [List.getLast?_cons_cons]; cases h : (g :: l).getLast? with
    | none => simp at h
    | some x => rfl
theorem lastS_cons (sv : Int) (f : FV) (l : List FV) : lastS sv (f :: l) = lastS f.sv l := by
  unfold lastS
  cases l with
  | nil => rfl
  | cons g l => rw [List.getLast?_cons_cons]; cases h : (g :: l).getLast? with
    | none => simp at h
    | some x => rfl
theorem lat_app (off t : Int) : ∀ (A B : List FV) (sv : Int) (best : Option FV), latF off t sv best (A ++ B) = latF off t (lastS sv A) (latF off t sv best A) B
  | [], _, _, _ => rfl
  | f :: A, B, sv, best => by rw [List.cons_append, latF, latF, lat_app off t A B, lastS_cons]
theorem inF_bd {f : FV} {off sv : Int} (h1 : -90000 < off) (h2 : off < 90000) (h3 : -90000 < sv) (h4 : sv < 90000) : f.nm - 180000 < inF f off sv ∧ inF f off sv < f.nm + 180000 := by
  unfold inF
  split
  · omega
  · split <;> omega
theorem lat_low {off t : Int} (h1 : -90000 < off) (h2 : off < 90000) : ∀ (A : List FV) (sv : Int) (best : Option FV), -90000 < sv → sv < 90000 → (∀ f ∈ A, (-90000 < f.sv ∧ f.sv < 90000) ∧ f.nm + 180000 ≤ t) → latF off t sv best A = lastO best A
  | [], _, _, _, _, _ => rfl
  | f :: A, sv, best, s1, s2, h => by
    have hf := h f (by simp)
    have := (inF_bd (f := f) h1 h2 s1 s2).2
    rw [latF, if_pos (by omega), lastO_cons]
    exact lat_low h1 h2 A f.sv _ hf.1.1 hf.1.2 fun g hg => h g (List.mem_cons_of_mem _ hg)
theorem lat_high {off t : Int} (h1 : -90000 < off) (h2 : off < 90000) : ∀ (A : List FV) (sv : Int) (best : Option FV), -90000 < sv → sv < 90000 → (∀ f ∈ A, (-90000 < f.sv ∧ f.sv < 90000) ∧ t + 180000 ≤ f.nm) → latF off t sv best A = best
  | [], _, _, _, _, _ => rfl
  | f :: A, sv, best, s1, s2, h => by
    have hf := h f (by simp)
    have := (inF_bd (f := f) h1 h2 s1 s2).1
    rw [latF, if_neg (by omega)]
    exact lat_high h1 h2 A f.sv _ hf.1.1 hf.1.2 fun g hg => h g (List.mem_cons_of_mem _ hg)
theorem lastS_bd {l : List FV} {sv : Int} (h : ∀ f ∈ l, -90000 < f.sv ∧ f.sv < 90000) (s1 : -90000 < sv) (s2 : sv < 90000) : -90000 < lastS sv l ∧ lastS sv l < 90000 := by
  unfold lastS
  cases e : l.getLast? with
  | none => exact ⟨s1, s2⟩
  | some f => exact h f (List.mem_of_getLast? e)
/-- The whole row's answer is told by what lies near the instant. -/
theorem lat_row {L : List FV} (hL : Apt L) {off t : Int} (h1 : -90000 < off) (h2 : off < 90000) (lo hi : Int) (hlo : lo + 180000 ≤ t + 1) (hhi : t + 180000 ≤ hi) (hl : lo ≤ hi) {m M : Int} (hm : ∀ f ∈ L, m ≤ f.nm ∧ f.nm < M) (hmm : m ≤ lo) (hMM : hi ≤ M) :
    latF off t 0 none L = latF off t (lastS 0 (win L m lo)) (lastO none (win L m lo)) (win L lo hi) := by
  have e : L = win L m lo ++ win L lo hi ++ win L hi M := by
    rw [win_app hL.ris hmm hl, win_app hL.ris (by omega) hMM]
    unfold win
    rw [List.filter_eq_self.2]
    intro f hf
    simpa using hm f hf
  have b1 : ∀ a b, ∀ f ∈ win L a b, -90000 < f.sv ∧ f.sv < 90000 := fun a b f hf => hL.1 f (win_mem.1 hf).1
  have s1 := lastS_bd (sv := 0) (b1 m lo) (by omega) (by omega)
  conv => lhs; rw [e]
  rw [lat_app, lat_app, lat_low h1 h2 _ 0 none (by omega) (by omega) fun f hf => ⟨b1 _ _ f hf, by have := (win_mem.1 hf).2; omega⟩]
  have s2 := lastS_bd (sv := lastS 0 (win L m lo)) (b1 lo hi) s1.1 s1.2
  rw [show lastS 0 (win L m lo ++ win L lo hi) = lastS (lastS 0 (win L m lo)) (win L lo hi) from ?_]
  · exact lat_high h1 h2 _ _ _ s2.1 s2.2 fun f hf => ⟨b1 _ _ f hf, by have := (win_mem.1 hf).2; omega⟩
  · unfold lastS
    rw [List.getLast?_append]
    cases (win L lo hi).getLast? <;> rfl
/-- What Ahead answers lies in the row. -/
theorem ahead_row {rs : List RV} {s m : Int} {f : FV} {b : Bool} (hok : ∀ r ∈ rs, okR r ∧ 1900 ≤ r.fr) (hL : Ris (rowF rs)) (hs : ySec s + 1 ≤ 2110) (h : AheadIs rs s f b) (hm : ∀ f ∈ rowF rs, m ≤ f.nm) :
    lastO none (win (rowF rs) m s) = (if b = true then some f else none) ∧ lastS 0 (win (rowF rs) m s) = f.sv := by
  have hin : ∀ g, FirOf rs g → g.nm < s → g ∈ win (rowF rs) m s := fun g ⟨r, hr, y, hy, e⟩ hl => by
    subst e
    have hg := row_mem.2 ⟨r, hr, y, by have := hy.1; have := (hok r hr).2; omega, by have := frF_low (hok r hr).1 hy hl; omega, hy, rfl⟩
    exact win_mem.2 ⟨hg, hm _ hg, hl⟩
  have hout : ∀ g ∈ win (rowF rs) m s, FirOf rs g ∧ g.nm < s := fun g hg => by
    obtain ⟨h1, h2, h3⟩ := win_mem.1 hg
    obtain ⟨r, hr, y, -, -, hy, e⟩ := row_mem.1 h1
    exact ⟨⟨r, hr, y, hy, e⟩, h3⟩
  have hR := win_ris hL m s
  generalize win (rowF rs) m s = W at hin hout hR
  rcases h with ⟨rfl, h1, h2, h3⟩ | ⟨rfl, rfl, h3⟩
  · have hf := hin f h1 h2
    have e : W.getLast? = some f := by
      cases hw : W.getLast? with
      | none => rw [List.getLast?_eq_none_iff] at hw; rw [hw] at hf; simp at hf
      | some g =>
        obtain ⟨l, rfl⟩ := List.getLast?_eq_some_iff.1 hw
        rcases List.mem_append.1 hf with hf | hf
        · have := (List.pairwise_append.1 hR).2.2 f hf g (by simp)
          have := h3 g (hout g (by simp)).1 (hout g (by simp)).2
          omega
        · simp at hf; rw [hf]
    unfold lastO lastS
    rw [e]; exact ⟨rfl, rfl⟩
  · have e : W = [] := by
      cases W with
      | nil => rfl
      | cons g W => have := hout g (by simp); have := h3 g this.1; omega
    rw [e]; exact ⟨rfl, rfl⟩
end Go.Proofs.YtdmfgechoanmlaaGreatDoor

namespace Go.Proofs.YtdmfgechoanmlaaGreatDoor
open Go Go.RowKit Go.Sort

/-- The middle of a year. -/
def smS (y : Int) : Int := dayN y 7 1 * 86400
theorem smS_bd (y : Int) : (ny y + 180) * 86400 ≤ smS y ∧ smS y ≤ (ny y + 183) * 86400 := by
  unfold smS dayN
  have h := cum_two y 7
  have e : ah 7 = 181 := by decide
  omega
/-- What fires at the middle of a year, or behind it, is of no earlier year. -/
theorem fr_sm_ge {r : RV} {y z : Int} (hr : okR r) (hf : frY r z) (h : smS y ≤ (frF r z).nm) : y ≤ z := by
  have h1 := (frF_bd hr hf).2
  have h2 := (smS_bd y).1
  rcases Int.lt_or_le z y with h3 | h3
  · have h4 := ny_mono (z + 1) y (by omega)
    have h5 := ny_mono z (z + 1) (by omega)
    omega
  · exact h3
theorem fr_sm_lt {r : RV} {y z : Int} (hr : okR r) (hf : frY r z) (h : (frF r z).nm < smS y) : z ≤ y := by
  have h1 := (frF_bd hr hf).1
  have h2 := (smS_bd y).2
  rcases Int.lt_or_le y z with h3 | h3
  · have h4 := ny_mono (y + 1) z (by omega)
    have h5 := ny_mono y (y + 1) (by omega)
    omega
  · exact h3
/-- The first and the last year of rules. -/
def spA (rs : List RV) : Int := rs.foldl (fun m r => min m r.fr) 100001
def spB (rs : List RV) : Int := rs.foldl (fun m r => max m r.tl) (-100001)
theorem foldl_min (rs : List RV) : ∀ m : Int, rs.foldl (fun m r => min m r.fr) m ≤ m ∧ ∀ r ∈ rs, rs.foldl (fun m r => min m r.fr) m ≤ r.fr := by
  induction rs with
  | nil => intro m; exact ⟨Int.le_refl _, by simp⟩
  | cons r rs ih =>
    intro m
    obtain ⟨h1, h2⟩ := ih (min m r.fr)
    simp only [List.foldl_cons]
    refine ⟨by omega, fun q hq => ?_⟩
    rcases List.mem_cons.1 hq with rfl | hq
    · omega
    · exact h2 q hq
theorem foldl_max (rs : List RV) : ∀ m : Int, m ≤ rs.foldl (fun m r => max m r.tl) m ∧ ∀ r ∈ rs, r.tl ≤ rs.foldl (fun m r => max m r.tl) m := by
  induction rs with
  | nil => intro m; exact ⟨Int.le_refl _, by simp⟩
  | cons r rs ih =>
    intro m
    obtain ⟨h1, h2⟩ := ih (max m r.tl)
    simp only [List.foldl_cons]
    refine ⟨by omega, fun q hq => ?_⟩
    rcases List.mem_cons.1 hq with rfl | hq
    · omega
    · exact h2 q hq
/-- The years that are gone through for a stretch. -/
structure BtY (rs : List RV) (lo hi y0 yL : Int) : Prop where
  ok : ∀ r ∈ rs, okR r ∧ 1900 ≤ r.fr
  ris : Ris (rowF rs)
  lb : 1890 ≤ y0
  ub : yL ≤ 2110
  st : ∀ r ∈ rs, ∀ z, frY r z → lo ≤ (frF r z).nm → y0 ≤ z
  en : ∀ r ∈ rs, ∀ z, frY r z → (frF r z).nm ≤ hi → z ≤ yL
theorem bty_of {rs : List RV} {lo hi yl : Int} (hok : ∀ r ∈ rs, okR r ∧ 1900 ≤ r.fr) (hR : Ris (rowF rs)) (hl : 1892 ≤ ySec lo) (hh : ySec hi + 1 ≤ 2110) (hyl : yl = if lo < smS (ySec lo) then ySec lo - 1 else ySec lo) :
    BtY rs lo hi (max yl (max (spA rs) (-100000))) (min (min (spB rs) 100000) (ySec hi + 1)) := by
  refine ⟨hok, hR, ?_, by omega, fun r hr z hz h => ?_, fun r hr z hz h => ?_⟩
  · rw [hyl]; split <;> omega
  · have h1 := (foldl_min rs 100001).2 r hr
    have h2 := hz.1
    have h3 := (hok r hr).2
    have h4 : yl ≤ z := by
      rw [hyl]
      split
      · exact frF_high (hok r hr).1 hz h
      · exact fr_sm_ge (hok r hr).1 hz (by omega)
    unfold spA
    omega
  · have h1 := (foldl_max rs (-100001)).2 r hr
    have h2 := hz.2.1
    have h4 := frF_low (s := hi + 1) (hok r hr).1 hz (by omega)
    have h5 : (frF r z).nm < (ny (ySec hi + 1)) * 86400 + 0 ∨ True := .inr trivial
    have h6 := (ySec_spec hi).2
    have h7 : z ≤ ySec hi + 1 := by
      have h8 := (frF_bd (hok r hr).1 hz).1
      have h9 := ny_mono (ySec hi + 1) (ySec hi + 2) (by omega)
      have h10 : ny z < ny (ySec hi + 2) := by omega
      have := ny_lt h10
      omega
    have h8 : z ≤ 100000 := by omega
    unfold spB
    omega
theorem smS_mono {a b : Int} (h : a ≤ b) : smS a ≤ smS b := by
  rcases Int.lt_or_le a b with h1 | h1
  · have := (smS_bd a).2
    have := (smS_bd b).1
    have := ny_mono a b h
    omega
  · obtain rfl : a = b := by omega
    exact Int.le_refl _
/-- What is known at the head of the loop over years: what is gone through is told. -/
structure BtI (rs : List RV) (lo hi y beg : Int) : Prop where
  lb : lo ≤ beg
  ub : beg ≤ hi + 1
  sm : beg ≤ smS (y + 1)
  hb : ∀ r ∈ rs, ∀ z, frY r z → beg ≤ (frF r z).nm → (frF r z).nm ≤ hi → y ≤ z
theorem BtI.start {rs : List RV} {lo hi y0 yL : Int} (B : BtY rs lo hi y0 yL) (h1 : lo ≤ hi + 1) (h2 : lo ≤ smS (y0 + 1)) : BtI rs lo hi y0 lo := ⟨Int.le_refl _, h1, h2, fun r hr z hz h _ => B.st r hr z hz h⟩
def chE (hi y k : Int) : Int := min (smS (y + k)) (hi + 1)
theorem BtI.le {rs : List RV} {lo hi y beg k : Int} (I : BtI rs lo hi y beg) (hk : 1 ≤ k) : beg ≤ chE hi y k ∧ chE hi y k ≤ hi + 1 := by
  have h1 := I.ub
  have h2 := I.sm
  have h3 := smS_mono (a := y + 1) (b := y + k) (by omega)
  unfold chE
  omega
theorem BtI.next {rs : List RV} {lo hi y0 yL y beg k : Int} (B : BtY rs lo hi y0 yL) (I : BtI rs lo hi y beg) (hk : 1 ≤ k) : BtI rs lo hi (y + k) (chE hi y k) := by
  obtain ⟨h1, h2⟩ := I.le hk
  refine ⟨by have := I.lb; omega, h2, ?_, fun r hr z hz h h3 => ?_⟩
  · have := smS_mono (a := y + k) (b := y + k + 1) (by omega)
    unfold chE; omega
  · refine fr_sm_ge (B.ok r hr).1 hz ?_
    unfold chE at h
    omega
theorem BtI.chunk {rs : List RV} {lo hi y0 yL y beg k b : Int} (B : BtY rs lo hi y0 yL) (I : BtI rs lo hi y beg) (h0 : y0 ≤ y) (hb : min (y + k) yL = b) :
    win (iso (ltOf cfF) (allF rs y b)) beg (chE hi y k) = win (rowF rs) beg (chE hi y k) := by
  have h1 := B.lb
  have h2 := B.ub
  refine chk_win B.ris (by omega) (by omega) fun r hr z hz h3 h4 => ?_
  have h5 : (frF r z).nm < smS (y + k) ∧ (frF r z).nm ≤ hi := by unfold chE at h4; omega
  have h6 := I.hb r hr z hz h3 h5.2
  have h7 := fr_sm_lt (B.ok r hr).1 hz h5.1
  have h8 := B.en r hr z hz h5.2
  omega
theorem BtI.done {rs : List RV} {lo hi y0 yL y beg : Int} (B : BtY rs lo hi y0 yL) (I : BtI rs lo hi y beg) (h : yL < y) : win (rowF rs) lo beg = win (rowF rs) lo (hi + 1) := by
  rw [← win_app B.ris I.lb I.ub]
  have e : win (rowF rs) beg (hi + 1) = [] := by
    cases hw : win (rowF rs) beg (hi + 1) with
    | nil => rfl
    | cons f l =>
      have hf : f ∈ win (rowF rs) beg (hi + 1) := by rw [hw]; simp
      obtain ⟨h1, h2, h3⟩ := win_mem.1 hf
      obtain ⟨r, hr, z, -, -, hz, rfl⟩ := row_mem.1 h1
      have := I.hb r hr z hz h2 (by omega)
      have := B.en r hr z hz (by omega)
      omega
  rw [e, List.append_nil]
end Go.Proofs.YtdmfgechoanmlaaGreatDoor
