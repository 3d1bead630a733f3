/- Texts laid together: NHeap, NMerge. -/
import Derived.Test.YtclcgakfmcofaaaGreatDoorMJ1
/- Heaps as lists: two change places; no child below its parent; what a step down does. No program in this text. -/
namespace Go.Proofs.YtclcgakfmcofaaaGreatDoor
set_option linter.unusedVariables false
set_option maxRecDepth 100000

/-- Two of a list change places. -/
def swp {α : Type} (l : List α) (i j : Nat) : List α := match l[i]?, l[j]? with
  | some a, some b => (l.set i b).set j a
  | _, _ => l
theorem swp_eq {α : Type} {l : List α} {i j : Nat} {a b : α} (hi : l[i]? = some a) (hj : l[j]? = some b) : swp l i j = (l.set i b).set j a := by unfold swp; rw [hi, hj]
theorem swp_at {α : Type} {l : List α} {i j : Nat} {a b : α} (hi : l[i]? = some a) (hj : l[j]? = some b) (k : Nat) : (swp l i j)[k]? = if k = j then some a else if k = i then some b else l[k]? := by
  have h1 : i < l.length := (List.getElem?_eq_some_iff.1 hi).1
  have h2 : j < l.length := (List.getElem?_eq_some_iff.1 hj).1
  rw [swp_eq hi hj]
  by_cases e : k = j
  · subst e
    rw [if_pos rfl, List.getElem?_set_self (by simpa using h2)]
  · rw [if_neg e, List.getElem?_set_ne (fun h => e h.symm)]
    by_cases e2 : k = i
    · subst e2
      rw [if_pos rfl, List.getElem?_set_self h1]
    · rw [if_neg e2, List.getElem?_set_ne (fun h => e2 h.symm)]
/-- From s on no child among the first n is below its parent. -/
def IsHp {α : Type} (lt : α → α → Bool) (l : List α) (n s : Nat) : Prop := ∀ p c a b, s ≤ p → (c = 2 * p + 1 ∨ c = 2 * p + 2) → c < n → l[p]? = some a → l[c]? = some b → lt b a = false
/-- So, but for the place i; and the children of i are not below its parent. -/
structure Hole {α : Type} (lt : α → α → Bool) (l : List α) (n s i : Nat) : Prop where
  rest : ∀ p c a b, s ≤ p → p ≠ i → (c = 2 * p + 1 ∨ c = 2 * p + 2) → c < n → l[p]? = some a → l[c]? = some b → lt b a = false
  up : ∀ q c a b, s ≤ q → (i = 2 * q + 1 ∨ i = 2 * q + 2) → (c = 2 * i + 1 ∨ c = 2 * i + 2) → c < n → l[q]? = some a → l[c]? = some b → lt b a = false
theorem Hole.start {α : Type} {lt : α → α → Bool} {l : List α} {n s : Nat} (h : IsHp lt l n (s + 1)) : Hole lt l n s s :=
  ⟨fun p c a b hp hne hc hn ha hb => h p c a b (by omega) hc hn ha hb, fun q c a b hq hi => by omega⟩
/-- An order: not both ways; what is not below one that is not below a third is not below the third. -/
structure Ord {α : Type} (lt : α → α → Bool) : Prop where
  asym : ∀ a b, lt a b = true → lt b a = false
  cotr : ∀ a b c, lt a b = false → lt b c = false → lt a c = false
/-- j: a child of i that the other one is not below. -/
def Least {α : Type} (lt : α → α → Bool) (l : List α) (n i j : Nat) : Prop := (j = 2 * i + 1 ∨ j = 2 * i + 2) ∧ j < n ∧ ∀ c a b, (c = 2 * i + 1 ∨ c = 2 * i + 2) → c < n → l[j]? = some a → l[c]? = some b → lt b a = false
theorem Least.one {α : Type} {lt : α → α → Bool} {l : List α} {n i : Nat} (h1 : 2 * i + 1 < n) (h : ∀ a b, 2 * i + 2 < n → l[2 * i + 1]? = some a → l[2 * i + 2]? = some b → lt b a = false) (hi : ∀ a, lt a a = false) : Least lt l n i (2 * i + 1) :=
  ⟨.inl rfl, h1, fun c a b hc hn ha hb => by
    rcases hc with rfl | rfl
    · rw [ha] at hb; injection hb with hb; subst hb; exact hi _
    · exact h a b hn ha hb⟩
theorem Hole.step {α : Type} {lt : α → α → Bool} (ho : Ord lt) {l : List α} {n s i j : Nat} (h : Hole lt l n s i) (hs : s ≤ i) (hj : Least lt l n i j) (hlt : ∀ a b, l[i]? = some a → l[j]? = some b → lt b a = true) (hl : n ≤ l.length) : Hole lt (swp l i j) n s j := by
  obtain ⟨h1, h2, h3⟩ := hj
  have hjl : j < l.length := by omega
  have hil : i < l.length := by omega
  have gi := List.getElem?_eq_getElem hil
  have gj := List.getElem?_eq_getElem hjl
  have hat := swp_at gi gj
  have hij : i ≠ j := by omega
  have hi' : (swp l i j)[i]? = some l[j] := by rw [hat, if_neg hij, if_pos rfl]
  have hj' : (swp l i j)[j]? = some l[i] := by rw [hat, if_pos rfl]
  have ho' : ∀ k, k ≠ i → k ≠ j → (swp l i j)[k]? = l[k]? := fun k h1 h2 => by rw [hat, if_neg h2, if_neg h1]
  constructor
  · intro p c a b hp hne hc hcn ha hb
    by_cases e : p = i
    · subst e
      rw [hi'] at ha
      injection ha with ha
      subst ha
      by_cases e2 : c = j
      · subst e2
        rw [hj'] at hb
        injection hb with hb
        subst hb
        exact ho.asym _ _ (hlt _ _ gi gj)
      · rw [ho' c (by omega) e2] at hb
        exact h3 c _ b hc hcn gj hb
    · rw [ho' p e hne] at ha
      by_cases e2 : c = i
      · subst e2
        rw [hi'] at hb
        injection hb with hb
        subst hb
        exact h.up p j a _ hp hc h1 h2 ha gj
      · by_cases e3 : c = j
        · omega
        · rw [ho' c e2 e3] at hb
          exact h.rest p c a b hp e hc hcn ha hb
  · intro q c a b hq hjq hc hcn ha hb
    have : q = i := by omega
    subst this
    rw [hi'] at ha
    injection ha with ha
    subst ha
    rw [ho' c (by omega) (by omega)] at hb
    exact h.rest j c _ b (by omega) (by omega) hc hcn gj hb
theorem IsHp.set0 {α : Type} {lt : α → α → Bool} {l : List α} {n : Nat} (h : IsHp lt l n 0) (x : α) : IsHp lt (l.set 0 x) n 1 := fun p c a b hp hc hn ha hb => by
  rw [List.getElem?_set_ne (by omega)] at ha hb
  exact h p c a b (by omega) hc hn ha hb
theorem IsHp.take {α : Type} {lt : α → α → Bool} {l : List α} {n s : Nat} (h : IsHp lt l n s) : IsHp lt (l.take n) n s := fun p c a b hp hc hn ha hb => by
  rw [List.getElem?_take_of_lt (by omega)] at ha hb
  exact h p c a b hp hc hn ha hb
/-- As many as half of them have no child. -/
theorem IsHp.half {α : Type} (lt : α → α → Bool) (l : List α) (n s : Nat) (h : n ≤ 2 * s + 1) : IsHp lt l n s := fun p c a b hp hc hn ha hb => by omega
end Go.Proofs.YtclcgakfmcofaaaGreatDoor
/- Runs merged by a heap: the least key, again and again, is what all rows gathered are. No program in this text. -/
namespace Go.Proofs.YtclcgakfmcofaaaGreatDoor
open Go.RowKit
set_option linter.unusedVariables false
set_option maxRecDepth 100000

/-- The rows of one key. -/
def ofK (x : Ky) (l : List Rw) : List Rw := l.filter fun r => decide (r.1 = x)
theorem ofK_app (x : Ky) (a b : List Rw) : ofK x (a ++ b) = ofK x a ++ ofK x b := by unfold ofK; rw [List.filter_append]
theorem ofK_cons_same {x : Ky} {r : Rw} {l : List Rw} (h : r.1 = x) : ofK x (r :: l) = r :: ofK x l := by unfold ofK; rw [List.filter_cons, if_pos (by simpa using h)]
theorem ofK_cons_other {x : Ky} {r : Rw} {l : List Rw} (h : r.1 ≠ x) : ofK x (r :: l) = ofK x l := by unfold ofK; rw [List.filter_cons, if_neg (by simpa using h)]
theorem ofK_nil {x : Ky} {l : List Rw} (h : ∀ r ∈ l, r.1 ≠ x) : ofK x l = [] := by unfold ofK; rw [List.filter_eq_nil_iff]; exact fun r hr => by simpa using h r hr
theorem mem_ofK {x : Ky} {l : List Rw} {r : Rw} : r ∈ ofK x l ↔ r ∈ l ∧ r.1 = x := by unfold ofK; rw [List.mem_filter]; simp
/-- What lies under a key hangs on its rows alone. -/
theorem look_ofK (J : Cl → Cl → Cl × Int) (l : List Rw) (x : Ky) : look (gat J l).1 x = look (gat J (ofK x l)).1 x := by
  induction l using snoc_ind with
  | h0 => rfl
  | h1 l r ih =>
    rw [ofK_app]
    by_cases e : r.1 = x
    · rw [ofK_cons_same e, show ofK x [] = [] from rfl, gat_snoc, gat_snoc]
      unfold stepG
      simp only
      rw [look_putR (rise_gat J l), look_putR (rise_gat J _), e, if_pos rfl, if_pos rfl, ih]
    · rw [ofK_cons_other e, show ofK x [] = [] from rfl, List.append_nil, gat_snoc]
      unfold stepG
      simp only
      rw [look_putR (rise_gat J l), if_neg (fun h => e h.symm), ih]
theorem err_snoc (J : Cl → Cl → Cl × Int) (l : List Rw) (r : Rw) : (gat J (l ++ [r])).2 ≠ 0 ↔ (gat J l).2 ≠ 0 ∨ errB J r.2 (look (gat J l).1 r.1) ≠ 0 := by
  rw [gat_snoc]
  unfold stepG
  simp only
  rw [err_putR (rise_gat J l)]
  by_cases h : errB J r.2 (look (gat J l).1 r.1) = 0
  · rw [if_pos h]; simp [h]
  · rw [if_neg h]; simp [h]
/-- There is an error just where a key has one. -/
theorem err_ofK (J : Cl → Cl → Cl × Int) (l : List Rw) : (gat J l).2 ≠ 0 ↔ ∃ x, (gat J (ofK x l)).2 ≠ 0 := by
  induction l using snoc_ind with
  | h0 => simp [gat_nil, ofK]
  | h1 l r ih =>
    have same : (gat J (ofK r.1 (l ++ [r]))).2 ≠ 0 ↔ (gat J (ofK r.1 l)).2 ≠ 0 ∨ errB J r.2 (look (gat J l).1 r.1) ≠ 0 := by
      rw [ofK_app, ofK_cons_same rfl, show ofK r.1 [] = [] from rfl, err_snoc, ← look_ofK]
    have other : ∀ x, r.1 ≠ x → ofK x (l ++ [r]) = ofK x l := fun x e => by rw [ofK_app, ofK_cons_other e, show ofK x [] = [] from rfl, List.append_nil]
    rw [err_snoc, ih]
    constructor
    · rintro (⟨x, hx⟩ | h)
      · by_cases e : r.1 = x
        · subst e
          exact ⟨r.1, same.2 (.inl hx)⟩
        · exact ⟨x, by rw [other x e]; exact hx⟩
      · exact ⟨r.1, same.2 (.inr h)⟩
    · rintro ⟨x, hx⟩
      by_cases e : r.1 = x
      · subst e
        rcases same.1 hx with h | h
        · exact .inl ⟨_, h⟩
        · exact .inr h
      · rw [other x e] at hx
        exact .inl ⟨x, hx⟩
theorem look_cat : ∀ (a b : List Rw) (x : Ky), look (a ++ b) x = match look a x with | some c => some c | none => look b x
  | [], b, x => rfl
  | r :: a, b, x => by
    show (if r.1 = x then some r.2 else look (a ++ b) x) = match (if r.1 = x then some r.2 else look a x) with | some c => some c | none => look b x
    by_cases e : r.1 = x
    · rw [if_pos e, if_pos e]
    · rw [if_neg e, if_neg e, look_cat a b x]
theorem mem_gat {J : Cl → Cl → Cl × Int} {l : List Rw} {r : Rw} (h : r ∈ (gat J l).1) : ∃ y ∈ l, y.1 = r.1 := by
  rw [← keys_gat J l, mem_look (rise_gat J l) h]
  rfl
theorem gat_len1 {J : Cl → Cl → Cl × Int} {X : List Rw} {k : Ky} (h : ∀ r ∈ X, r.1 = k) (h0 : X ≠ []) : (gat J X).1.length = 1 := by
  have hr := rise_gat J X
  have hk : ∀ r ∈ (gat J X).1, r.1 = k := fun r hr => by obtain ⟨y, hy, e⟩ := mem_gat hr; rw [← e]; exact h y hy
  obtain ⟨r, X', rfl⟩ : ∃ r X', X = r :: X' := by cases X with | nil => exact absurd rfl h0 | cons r X' => exact ⟨r, X', rfl⟩
  have hs := (keys_gat J (r :: X') r.1).2 ⟨r, by simp, rfl⟩
  match hg : (gat J (r :: X')).1, hr, hk, hs with
  | [], _, _, hs => simp [look] at hs
  | [_], _, _, _ => rfl
  | a :: b :: l, hr, hk, _ =>
    rw [riseK_cons] at hr
    have := hr.1 b (by simp)
    rw [hk a (by simp), hk b (by simp), ltK_irrefl] at this
    cases this
/-- The rows of the least key, and the rest. -/
theorem gat_least {J : Cl → Cl → Cl × Int} {l l' : List Rw} {k : Ky} (hk : ofK k l' = []) (ho : ∀ x, x ≠ k → ofK x l = ofK x l') (hg : ∀ y ∈ l', ltK k y.1 = true) :
    (gat J l).1 = (gat J (ofK k l)).1 ++ (gat J l').1 ∧ ((gat J l).2 ≠ 0 ↔ (gat J (ofK k l)).2 ≠ 0 ∨ (gat J l').2 ≠ 0) := by
  have hX : ∀ r ∈ ofK k l, r.1 = k := fun r hr => (mem_ofK.1 hr).2
  constructor
  · refine riseK_ext (rise_gat J l) ?_ fun x => ?_
    · unfold RiseK
      rw [List.pairwise_append]
      refine ⟨rise_gat J _, rise_gat J _, fun a ha b hb => ?_⟩
      obtain ⟨y, hy, e⟩ := mem_gat ha
      obtain ⟨z, hz, e2⟩ := mem_gat hb
      rw [← e, ← e2, hX y hy]
      exact hg z hz
    · rw [look_cat]
      by_cases e : x = k
      · subst e
        have : look (gat J l').1 x = none := by rw [look_ofK, hk]; rfl
        rw [this, ← look_ofK]
        split
        · assumption
        · assumption
      · have : look (gat J (ofK k l)).1 x = none := by
          rw [look_none]
          intro r hr h
          obtain ⟨y, hy, e2⟩ := mem_gat hr
          exact e (by rw [← h, ← e2]; exact hX y hy)
        rw [this]
        rw [look_ofK, ho x e, ← look_ofK]
  · rw [err_ofK J l, err_ofK J l']
    constructor
    · rintro ⟨x, hx⟩
      by_cases e : x = k
      · subst e; exact .inl hx
      · exact .inr ⟨x, by rw [← ho x e]; exact hx⟩
    · rintro (h | ⟨x, hx⟩)
      · exact ⟨k, h⟩
      · have e : x ≠ k := fun e => by rw [e, hk] at hx; exact hx rfl
        exact ⟨x, by rw [ho x e]; exact hx⟩
/-- What is left of a run, and its place. -/
abbrev Hi := (Option Addr × Nat × Nat) × List Rw × Nat
def hkey (x : Hi) : Ky := match x.2.1 with | [] => (0, ⟨#[]⟩) | r :: _ => r.1
def ltH (x y : Hi) : Bool := ltK (hkey x) (hkey y) || (decide (hkey x = hkey y) && decide (x.2.2 < y.2.2))
/-- The heap H holds what is left of the runs: R. -/
structure HRel (H : List Hi) (R : List (List Rw)) : Prop where
  at_ : ∀ x ∈ H, x.2.1 ≠ [] ∧ R[x.2.2]? = some x.2.1
  all : ∀ (i : Nat) (r : Rw) (l : List Rw), R[i]? = some (r :: l) → ∃ x ∈ H, x.2.2 = i
  nodup : (H.map (·.2.2)).Nodup
theorem HRel.perm {H H' : List Hi} {R : List (List Rw)} (h : HRel H R) (p : H'.Perm H) : HRel H' R :=
  ⟨fun x hx => h.at_ x (p.mem_iff.1 hx), fun i r l hi => by obtain ⟨x, hx, e⟩ := h.all i r l hi; exact ⟨x, p.mem_iff.2 hx, e⟩, ((p.map (·.2.2)).nodup_iff).2 h.nodup⟩
theorem HRel.nil {R : List (List Rw)} (h : HRel [] R) : R.flatten = [] := by
  rw [List.flatten_eq_nil_iff]
  intro l hl
  obtain ⟨i, hi⟩ := List.getElem?_of_mem hl
  cases l with
  | nil => rfl
  | cons r l =>
    obtain ⟨x, hx, -⟩ := h.all i r l hi
    cases hx
/-- All keys that are left are not below that of the first. -/
theorem HRel.low {H : List Hi} {R : List (List Rw)} (h : HRel H R) (hR : ∀ l ∈ R, RiseK l) {x : Hi} (hx : ∀ y ∈ H, ltH y x = false) : ∀ y ∈ R.flatten, ltK y.1 (hkey x) = false := by
  intro y hy
  obtain ⟨l, hl, hyl⟩ := List.mem_flatten.1 hy
  obtain ⟨i, hi⟩ := List.getElem?_of_mem hl
  cases l with
  | nil => cases hyl
  | cons r l =>
    obtain ⟨z, hz, e⟩ := h.all i r l hi
    have hzr := (h.at_ z hz).2
    rw [e, hi] at hzr
    injection hzr with hzr
    have hlt := hx z hz
    have hkz : hkey z = r.1 := by unfold hkey; rw [← hzr]
    unfold ltH at hlt
    rw [Bool.or_eq_false_iff, hkz] at hlt
    have hr := hR _ hl
    rw [riseK_cons] at hr
    rcases List.mem_cons.1 hyl with rfl | hyl
    · exact hlt.1
    · cases hc : ltK y.1 (hkey x)
      · rfl
      · have := ltK_trans (hr.1 y hyl) hc
        rw [hlt.1] at this
        cases this
/-- The first one's first row is taken. -/
theorem HRel.take {T : List Hi} {R : List (List Rw)} {s : Option Addr × Nat × Nat} {r : Rw} {t : List Rw} {i : Nat} (h : HRel ((s, r :: t, i) :: T) R) (hR : ∀ l ∈ R, RiseK l) (hx : ∀ y ∈ (s, r :: t, i) :: T, ltH y (s, r :: t, i) = false) :
    ofK r.1 R.flatten = r :: ofK r.1 (R.set i t).flatten ∧ (∀ x, x ≠ r.1 → ofK x R.flatten = ofK x (R.set i t).flatten) ∧ (∀ l ∈ R.set i t, RiseK l) ∧ (∀ y ∈ (R.set i t).flatten, y ∈ R.flatten) ∧ R.flatten.length = (R.set i t).flatten.length + 1 := by
  have hi := (h.at_ _ (List.mem_cons_self)).2
  simp only at hi
  have hil : i < R.length := (List.getElem?_eq_some_iff.1 hi).1
  have hgi : R[i] = r :: t := (List.getElem?_eq_some_iff.1 hi).2
  obtain ⟨A, B, hAB, hA⟩ : ∃ A B, R = A ++ (r :: t) :: B ∧ A.length = i := ⟨R.take i, R.drop (i + 1), by rw [← hgi, List.getElem_cons_drop, List.take_append_drop], by rw [List.length_take]; omega⟩
  have hset : R.set i t = A ++ t :: B := by rw [hAB, ← hA, List.set_append_right _ _ (Nat.le_refl _), Nat.sub_self]; rfl
  have hfl : R.flatten = A.flatten ++ (r :: t) ++ B.flatten := by rw [hAB]; simp
  have hfl2 : (R.set i t).flatten = A.flatten ++ t ++ B.flatten := by rw [hset]; simp
  have hAk : ofK r.1 A.flatten = [] := ofK_nil fun y hy e => by
    obtain ⟨l, hl, hyl⟩ := List.mem_flatten.1 hy
    obtain ⟨j, hj⟩ := List.getElem?_of_mem hl
    have hji : j < A.length := (List.getElem?_eq_some_iff.1 hj).1
    have hjR : R[j]? = some l := by rw [hAB, List.getElem?_append_left hji]; exact hj
    cases l with
    | nil => cases hyl
    | cons r' l =>
      obtain ⟨z, hz, ez⟩ := h.all j r' l hjR
      have hzr := (h.at_ z hz).2
      rw [ez, hjR] at hzr
      injection hzr with hzr
      have hlt := hx z hz
      have hkz : hkey z = r'.1 := by unfold hkey; rw [← hzr]
      unfold ltH at hlt
      rw [Bool.or_eq_false_iff, hkz, Bool.and_eq_false_iff, decide_eq_false_iff_not, decide_eq_false_iff_not] at hlt
      have hkx : hkey (s, r :: t, i) = r.1 := rfl
      rw [hkx] at hlt
      have hr := hR _ (List.mem_of_getElem? hjR)
      rw [riseK_cons] at hr
      rcases List.mem_cons.1 hyl with rfl | hyl
      · rcases hlt.2 with h | h
        · exact h e
        · simp only at h; omega
      · have h1 := hr.1 y hyl
        rw [e, hlt.1] at h1
        cases h1
  refine ⟨?_, fun x hxk => ?_, fun l hl => ?_, fun y hy => ?_, ?_⟩
  · rw [hfl, hfl2, ofK_app, ofK_app, ofK_app, ofK_app, hAk, ofK_cons_same rfl]; rfl
  · rw [hfl, hfl2, ofK_app, ofK_app, ofK_app, ofK_app, ofK_cons_other (fun e => hxk e.symm)]
  · rw [hset] at hl
    rcases List.mem_append.1 hl with hl | hl
    · exact hR l (by rw [hAB]; simp [hl])
    · rcases List.mem_cons.1 hl with rfl | hl
      · have := hR (r :: l) (by rw [hAB]; simp)
        rw [riseK_cons] at this
        exact this.2
      · exact hR l (by rw [hAB]; simp [hl])
  · rw [hfl2] at hy
    rw [hfl]
    simp only [List.mem_append, List.mem_cons] at hy ⊢
    rcases hy with (hy | hy) | hy
    · exact .inl (.inl hy)
    · exact .inl (.inr (.inr hy))
    · exact .inr hy
  · rw [hfl, hfl2]; simp; omega
/-- What is left of it stays, or nothing is. -/
theorem HRel.next {T H' : List Hi} {R : List (List Rw)} {s s' : Option Addr × Nat × Nat} {r : Rw} {t : List Rw} {i : Nat} (h : HRel ((s, r :: t, i) :: T) R) (hp : if t = [] then H'.Perm T else H'.Perm ((s', t, i) :: T)) : HRel H' (R.set i t) := by
  have hi := (h.at_ _ (List.mem_cons_self)).2
  simp only at hi
  have hil : i < R.length := (List.getElem?_eq_some_iff.1 hi).1
  have hnd := h.nodup
  rw [List.map_cons, List.nodup_cons] at hnd
  have hne : ∀ x ∈ T, x.2.2 ≠ i := fun x hx e => hnd.1 (List.mem_map.2 ⟨x, hx, e⟩)
  have hT : ∀ x ∈ T, x.2.1 ≠ [] ∧ (R.set i t)[x.2.2]? = some x.2.1 := fun x hx => by
    have := h.at_ x (List.mem_cons_of_mem _ hx)
    rw [List.getElem?_set_ne (fun e => hne x hx e.symm)]
    exact this
  by_cases e : t = []
  · rw [if_pos e] at hp
    refine HRel.perm ⟨hT, fun j r' l hj => ?_, hnd.2⟩ hp
    by_cases ej : j = i
    · subst ej
      rw [List.getElem?_set_self hil, e] at hj
      cases hj
    · rw [List.getElem?_set_ne (fun h => ej h.symm)] at hj
      obtain ⟨x, hx, ex⟩ := h.all j r' l hj
      rcases List.mem_cons.1 hx with rfl | hx
      · exact absurd ex.symm ej
      · exact ⟨x, hx, ex⟩
  · rw [if_neg e] at hp
    refine HRel.perm ⟨fun x hx => ?_, fun j r' l hj => ?_, by rw [List.map_cons, List.nodup_cons]; exact hnd⟩ hp
    · rcases List.mem_cons.1 hx with rfl | hx
      · exact ⟨e, List.getElem?_set_self hil⟩
      · exact hT x hx
    · by_cases ej : j = i
      · exact ⟨_, List.mem_cons_self, ej.symm⟩
      · rw [List.getElem?_set_ne (fun h => ej h.symm)] at hj
        obtain ⟨x, hx, ex⟩ := h.all j r' l hj
        rcases List.mem_cons.1 hx with rfl | hx
        · exact absurd ex.symm ej
        · exact ⟨x, List.mem_cons_of_mem _ hx, ex⟩
/-- How far the merging is: what is out, the error, how many keys. -/
structure Mg (J : Cl → Cl → Cl × Int) (L R : List (List Rw)) (out : List Rw) (bad : Int) (n : Nat) : Prop where
  len : (gat J L.flatten).1.length = n + (gat J R.flatten).1.length
  ok : bad = 0 → (gat J L.flatten).1 = out ++ (gat J R.flatten).1 ∧ ((gat J L.flatten).2 ≠ 0 ↔ (gat J R.flatten).2 ≠ 0)
  bad : bad ≠ 0 → bad = 11 ∧ (gat J L.flatten).2 ≠ 0
  out : out.length ≤ n
theorem Mg.start (J : Cl → Cl → Cl × Int) (L : List (List Rw)) : Mg J L L [] 0 0 := ⟨by simp, fun _ => ⟨by simp, Iff.rfl⟩, fun h => absurd rfl h, by simp⟩
theorem Mg.step {agg : Int} {bd : Nat} {L R R' : List (List Rw)} {out : List Rw} {bad : Int} {n : Nat} (h : Mg (joinC agg bd) L R out bad n) {k : Ky} (hX : ofK k R.flatten ≠ []) (hk : ofK k R'.flatten = []) (ho : ∀ x, x ≠ k → ofK x R.flatten = ofK x R'.flatten) (hg : ∀ y ∈ R'.flatten, ltK k y.1 = true) :
    Mg (joinC agg bd) L R' (out ++ (fin (gat (joinC agg bd) (ofK k R.flatten))).1) (if (fin (gat (joinC agg bd) (ofK k R.flatten))).2 = 0 then bad else (fin (gat (joinC agg bd) (ofK k R.flatten))).2) (n + 1) := by
  obtain ⟨e1, e2⟩ := gat_least (J := joinC agg bd) hk ho hg
  have l1 := gat_len1 (J := joinC agg bd) (X := ofK k R.flatten) (k := k) (fun r hr => (mem_ofK.1 hr).2) hX
  rcases gat_err agg bd (ofK k R.flatten) with h0 | h0
  · rw [fin_ok h0, h0, if_pos rfl]
    refine ⟨?_, fun hb => ?_, h.bad, by have := h.out; rw [List.length_append]; omega⟩
    · rw [h.len, e1, List.length_append]; omega
    · obtain ⟨g1, g2⟩ := h.ok hb
      refine ⟨by rw [g1, e1, List.append_assoc], ?_⟩
      rw [g2, e2, h0]
      simp
  · rw [fin_bad (by rw [h0]; decide), h0, if_neg (by decide)]
    refine ⟨?_, fun hb => absurd hb (by decide), fun _ => ⟨rfl, ?_⟩, by have := h.out; simp only [List.append_nil]; omega⟩
    · rw [h.len, e1, List.length_append]; omega
    · by_cases hb : bad = 0
      · rw [(h.ok hb).2, e2, h0]; exact .inl (by decide)
      · exact (h.bad hb).2
theorem Mg.done {agg : Int} {bd : Nat} {L R : List (List Rw)} {out : List Rw} {bad : Int} {n : Nat} (h : Mg (joinC agg bd) L R out bad n) (hR : R.flatten = []) : fin (gat (joinC agg bd) L.flatten) = (if bad = 0 then (out, 0) else ([], bad)) ∧ (gat (joinC agg bd) L.flatten).1.length = n := by
  have hlen := h.len
  rw [hR, gat_nil] at hlen
  refine ⟨?_, by simpa using hlen⟩
  by_cases hb : bad = 0
  · obtain ⟨g1, g2⟩ := h.ok hb
    rw [hR, gat_nil] at g1 g2
    have g3 : (gat (joinC agg bd) L.flatten).2 = 0 := by
      by_cases g : (gat (joinC agg bd) L.flatten).2 = 0
      · exact g
      · exact absurd rfl (g2.1 g)
    rw [fin_ok g3, if_pos hb]
    exact Prod.ext (by simpa using g1) g3
  · obtain ⟨g1, g2⟩ := h.bad hb
    rw [fin_bad g2, if_neg hb, g1, (gat_err agg bd L.flatten).resolve_left g2]
/-- One key more than may be. -/
theorem Mg.more {agg : Int} {bd : Nat} {L R : List (List Rw)} {out : List Rw} {bad : Int} {n : Nat} (h : Mg (joinC agg bd) L R out bad n) (hR : R.flatten ≠ []) : n < (gat (joinC agg bd) L.flatten).1.length := by
  rw [h.len]
  obtain ⟨r, hr⟩ := List.exists_mem_of_ne_nil _ hR
  have hs := (keys_gat (joinC agg bd) R.flatten r.1).2 ⟨r, hr, rfl⟩
  cases hg : (gat (joinC agg bd) R.flatten).1 with
  | nil => rw [hg] at hs; simp [look] at hs
  | cons a l => simp
end Go.Proofs.YtclcgakfmcofaaaGreatDoor
