/- Rows: cells by rising keys; one more put among them; gathered. No program in this text. -/
import Derived.Test.YticpaemmdfmbfaaJ1
import Derived.Test.YticpaemmdfmbfaaJ2
namespace Go.Proofs.Yticpaemmdfmbfaa
open Go.RowKit
set_option linter.unusedVariables false
set_option maxRecDepth 100000

/-- A row: its key, its cell. -/
abbrev Rw := Ky × Cl
abbrev RiseK (l : List Rw) : Prop := l.Pairwise (fun a b => ltK a.1 b.1 = true)
theorem riseK_cons {r : Rw} {l : List Rw} : RiseK (r :: l) ↔ (∀ y ∈ l, ltK r.1 y.1 = true) ∧ RiseK l := List.pairwise_cons
/-- The cell of a key. -/
def look : List Rw → Ky → Option Cl
  | [], _ => none
  | r :: l, k => if r.1 = k then some r.2 else look l k
theorem look_skip {r : Rw} {l : List Rw} {k : Ky} (h : r.1 ≠ k) : look (r :: l) k = look l k := by
  rw [look.eq_def]
  simp only [if_neg h]
theorem look_none {l : List Rw} {k : Ky} : look l k = none ↔ ∀ r ∈ l, r.1 ≠ k := by
  induction l with
  | nil => simp [look]
  | cons r l ih =>
    unfold look
    by_cases h : r.1 = k
    · simp [h]
    · rw [if_neg h, ih]
      simp [h]
theorem look_mem {l : List Rw} {k : Ky} {c : Cl} (h : look l k = some c) : (k, c) ∈ l := by
  induction l with
  | nil => simp [look] at h
  | cons r l ih =>
    unfold look at h
    by_cases e : r.1 = k
    · rw [if_pos e] at h
      injection h with h
      subst e h
      simp
    · rw [if_neg e] at h
      exact List.mem_cons_of_mem _ (ih h)
theorem mem_look {l : List Rw} (hl : RiseK l) {r : Rw} (h : r ∈ l) : look l r.1 = some r.2 := by
  induction l with
  | nil => simp at h
  | cons a l ih =>
    rw [riseK_cons] at hl
    unfold look
    rcases List.mem_cons.1 h with rfl | h
    · rw [if_pos rfl]
    · rw [if_neg (ltK_ne (hl.1 r h)), ih hl.2 h]
theorem riseK_ext {l m : List Rw} (hl : RiseK l) (hm : RiseK m) (h : ∀ x, look l x = look m x) : l = m := by
  have hk : l.map (·.1) = m.map (·.1) := by
    refine strict_eq (fun x => ?_) (by rw [List.pairwise_map]; exact hl) (by rw [List.pairwise_map]; exact hm)
    constructor
    · intro hx
      obtain ⟨r, hr, rfl⟩ := List.mem_map.1 hx
      have := mem_look hl hr
      rw [h] at this
      exact List.mem_map.2 ⟨_, look_mem this, rfl⟩
    · intro hx
      obtain ⟨r, hr, rfl⟩ := List.mem_map.1 hx
      have := mem_look hm hr
      rw [← h] at this
      exact List.mem_map.2 ⟨_, look_mem this, rfl⟩
  apply List.ext_getElem?
  intro i
  have hi : (l.map (·.1))[i]? = (m.map (·.1))[i]? := by rw [hk]
  rw [List.getElem?_map, List.getElem?_map] at hi
  cases h1 : l[i]? with
  | none => rw [h1] at hi; cases h2 : m[i]? with
    | none => rfl
    | some b => rw [h2] at hi; cases hi
  | some a => cases h2 : m[i]? with
    | none => rw [h1, h2] at hi; cases hi
    | some b =>
      rw [h1, h2] at hi
      injection hi with hi
      have hi : a.1 = b.1 := hi
      have e1 := mem_look hl (List.mem_of_getElem? h1)
      have e2 := mem_look hm (List.mem_of_getElem? h2)
      rw [h, hi, e2] at e1
      injection e1 with e1
      rw [Prod.ext hi e1.symm]
/-- One more among rows: they, and the error; J: what two cells are together. -/
def putR (J : Cl → Cl → Cl × Int) (k : Ky) (c : Cl) : List Rw → List Rw × Int
  | [] => ([(k, c)], 0)
  | r :: l => if ltK k r.1 then ((k, c) :: r :: l, 0)
    else if r.1 = k then (if (J r.2 c).2 = 0 then ((k, (J r.2 c).1) :: l, 0) else (r :: l, (J r.2 c).2))
    else (r :: (putR J k c l).1, (putR J k c l).2)
theorem putR_key {J : Cl → Cl → Cl × Int} {k : Ky} {c : Cl} {l : List Rw} : ∀ {r}, r ∈ (putR J k c l).1 → r.1 = k ∨ ∃ r' ∈ l, r'.1 = r.1 := by
  induction l with
  | nil => intro r hr; simp [putR] at hr; exact .inl (by rw [hr])
  | cons a l ih =>
    intro r hr
    unfold putR at hr
    by_cases h1 : ltK k a.1 = true
    · rw [if_pos h1] at hr
      rcases List.mem_cons.1 hr with rfl | hr
      · exact .inl rfl
      · exact .inr ⟨r, hr, rfl⟩
    · rw [if_neg h1] at hr
      by_cases h2 : a.1 = k
      · rw [if_pos h2] at hr
        split at hr
        · rcases List.mem_cons.1 hr with rfl | hr
          · exact .inl rfl
          · exact .inr ⟨r, by simp [hr], rfl⟩
        · exact .inr ⟨r, hr, rfl⟩
      · rw [if_neg h2] at hr
        rcases List.mem_cons.1 hr with rfl | hr
        · exact .inr ⟨r, by simp, rfl⟩
        · rcases ih hr with h | ⟨r', h, e⟩
          · exact .inl h
          · exact .inr ⟨r', by simp [h], e⟩
theorem rise_putR {J : Cl → Cl → Cl × Int} {k : Ky} {c : Cl} : ∀ {l : List Rw}, RiseK l → RiseK (putR J k c l).1
  | [], _ => by simp [putR, RiseK]
  | a :: l, h => by
    have h0 := h
    rw [riseK_cons] at h
    unfold putR
    by_cases h1 : ltK k a.1 = true
    · rw [if_pos h1]
      rw [riseK_cons]
      refine ⟨fun y hy => ?_, h0⟩
      rcases List.mem_cons.1 hy with rfl | hy
      · exact h1
      · exact ltK_trans h1 (h.1 y hy)
    · rw [if_neg h1]
      by_cases h2 : a.1 = k
      · rw [if_pos h2]
        split
        · rw [riseK_cons]
          exact ⟨fun y hy => by rw [← h2]; exact h.1 y hy, h.2⟩
        · exact h0
      · rw [if_neg h2, riseK_cons]
        refine ⟨fun y hy => ?_, rise_putR h.2⟩
        rcases putR_key hy with e | ⟨r', hr', e⟩
        · rw [e]
          cases h3 : ltK a.1 k
          · exact absurd (ltK_total h3 (by simpa using h1)) h2
          · rfl
        · rw [← e]; exact h.1 r' hr'
theorem look_low {l : List Rw} {k : Ky} (h : ∀ y ∈ l, ltK k y.1 = true) : look l k = none := look_none.2 fun r hr e => by have := h r hr; rw [e, ltK_irrefl] at this; cases this
/-- What lies under the key then. -/
def both (J : Cl → Cl → Cl × Int) (c : Cl) : Option Cl → Cl
  | none => c
  | some d => if (J d c).2 = 0 then (J d c).1 else d
def errB (J : Cl → Cl → Cl × Int) (c : Cl) : Option Cl → Int
  | none => 0
  | some d => (J d c).2
theorem look_putR {J : Cl → Cl → Cl × Int} {k : Ky} {c : Cl} : ∀ {l : List Rw}, RiseK l → ∀ x, look (putR J k c l).1 x = if x = k then some (both J c (look l k)) else look l x
  | [], _, x => by
    unfold putR look
    by_cases h : k = x
    · subst h; simp [both]
    · rw [if_neg h, if_neg (fun e => h e.symm)]
      rfl
  | a :: l, h, x => by
    rw [riseK_cons] at h
    unfold putR
    by_cases h1 : ltK k a.1 = true
    · rw [if_pos h1]
      have hn : look (a :: l) k = none := look_low fun y hy => by
        rcases List.mem_cons.1 hy with rfl | hy
        · exact h1
        · exact ltK_trans h1 (h.1 y hy)
      rw [hn]
      show (if k = x then some c else look (a :: l) x) = _
      by_cases e : k = x
      · subst e; simp [both]
      · rw [if_neg e, if_neg (fun e' => e e'.symm)]
    · rw [if_neg h1]
      by_cases h2 : a.1 = k
      · rw [if_pos h2]
        have hk : look (a :: l) k = some a.2 := by unfold look; rw [if_pos h2]
        rw [hk]
        by_cases hj : (J a.2 c).2 = 0
        · rw [if_pos hj]
          show (if k = x then some (J a.2 c).1 else look l x) = _
          by_cases e : k = x
          · subst e
            rw [if_pos rfl, if_pos rfl, both, if_pos hj]
          · rw [if_neg e, if_neg (fun e' => e e'.symm), look_skip (fun e' => e (h2.symm.trans e'))]
        · rw [if_neg hj]
          show look (a :: l) x = _
          by_cases e : k = x
          · subst e
            rw [if_pos rfl, both, if_neg hj, hk]
          · rw [if_neg (fun e' => e e'.symm)]
      · rw [if_neg h2]
        show (if a.1 = x then some a.2 else look (putR J k c l).1 x) = _
        rw [look_putR h.2 x]
        have hk : look (a :: l) k = look l k := by
          rw [look.eq_def]
          simp only [if_neg h2]
        rw [hk]
        by_cases e : a.1 = x
        · rw [if_pos e, if_neg (fun e' => h2 (e.trans e'))]
          unfold look
          rw [if_pos e]
        · rw [if_neg e]
          split
          · rfl
          · show _ = look (a :: l) x
            rw [look.eq_def (a :: l)]
            simp only [if_neg e]
theorem err_putR {J : Cl → Cl → Cl × Int} {k : Ky} {c : Cl} : ∀ {l : List Rw}, RiseK l → (putR J k c l).2 = errB J c (look l k)
  | [], _ => rfl
  | a :: l, h => by
    rw [riseK_cons] at h
    unfold putR
    by_cases h1 : ltK k a.1 = true
    · rw [if_pos h1]
      have hn : look (a :: l) k = none := look_low fun y hy => by
        rcases List.mem_cons.1 hy with rfl | hy
        · exact h1
        · exact ltK_trans h1 (h.1 y hy)
      rw [hn]
      rfl
    · rw [if_neg h1]
      by_cases h2 : a.1 = k
      · rw [if_pos h2]
        have hk : look (a :: l) k = some a.2 := by unfold look; rw [if_pos h2]
        rw [hk]
        unfold errB
        split
        · next h3 => exact h3.symm
        · rfl
      · rw [if_neg h2]
        have hk : look (a :: l) k = look l k := by
          rw [look.eq_def]
          simp only [if_neg h2]
        rw [hk]
        exact err_putR h.2
theorem len_putR {J : Cl → Cl → Cl × Int} {k : Ky} {c : Cl} : ∀ {l : List Rw}, RiseK l → (putR J k c l).1.length = if (look l k).isSome then l.length else l.length + 1
  | [], _ => rfl
  | a :: l, h => by
    rw [riseK_cons] at h
    unfold putR
    by_cases h1 : ltK k a.1 = true
    · rw [if_pos h1]
      have hn : look (a :: l) k = none := look_low fun y hy => by
        rcases List.mem_cons.1 hy with rfl | hy
        · exact h1
        · exact ltK_trans h1 (h.1 y hy)
      rw [hn]
      rfl
    · rw [if_neg h1]
      by_cases h2 : a.1 = k
      · rw [if_pos h2]
        have hk : look (a :: l) k = some a.2 := by unfold look; rw [if_pos h2]
        rw [hk]
        split <;> rfl
      · rw [if_neg h2]
        have hk : look (a :: l) k = look l k := by
          rw [look.eq_def]
          simp only [if_neg h2]
        rw [hk]
        show (putR J k c l).1.length + 1 = _
        rw [len_putR h.2]
        split <;> rfl
/-- By the place where it belongs. -/
theorem putR_at {J : Cl → Cl → Cl × Int} {k : Ky} {c : Cl} : ∀ {l : List Rw} {n : Nat}, RiseK l → n ≤ l.length → (∀ y ∈ l.take n, ltK y.1 k = true) → (∀ y ∈ l.drop n, ltK y.1 k = false) →
    (∀ d, l[n]? = some (k, d) → putR J k c l = (if (J d c).2 = 0 then (l.set n (k, (J d c).1), 0) else (l, (J d c).2))) ∧
    ((∀ d, l[n]? ≠ some (k, d)) → putR J k c l = (l.take n ++ [(k, c)] ++ l.drop n, 0))
  | [], n, _, hn, _, _ => by
    have : n = 0 := by simpa using hn
    subst this
    exact ⟨fun d hd => by simp at hd, fun _ => rfl⟩
  | a :: l, 0, h, _, _, h2 => by
    have ha := h2 a (by simp)
    rw [riseK_cons] at h
    refine ⟨fun d hd => ?_, fun hd => ?_⟩
    · simp at hd
      subst hd
      unfold putR
      rw [if_neg (by rw [ltK_irrefl]; simp), if_pos rfl]
      rfl
    · have hne : a.1 ≠ k := fun e => hd a.2 (by rw [← e]; rfl)
      have hlt : ltK k a.1 = true := by
        cases h3 : ltK k a.1
        · exact absurd (ltK_total ha h3) hne
        · rfl
      unfold putR
      rw [if_pos hlt]
      rfl
  | a :: l, n + 1, h, hn, h1, h2 => by
    have ha := h1 a (by simp)
    rw [riseK_cons] at h
    obtain ⟨g1, g2⟩ := putR_at (J := J) (c := c) h.2 (by simpa using hn) (fun y hy => h1 y (by simp [hy])) (fun y hy => h2 y (by simpa using hy))
    have e0 : putR J k c (a :: l) = (a :: (putR J k c l).1, (putR J k c l).2) := by
      rw [putR.eq_def]
      simp only
      rw [if_neg (by rw [ltK_asymm ha]; simp), if_neg (ltK_ne ha)]
    refine ⟨fun d hd => ?_, fun hd => ?_⟩
    · rw [e0, g1 d (by simpa using hd)]
      split <;> rfl
    · rw [e0, g2 (fun d => by simpa using hd d)]
      rfl
/-- Rows gathered: what lies there, and the last error. -/
def stepG (J : Cl → Cl → Cl × Int) (s : List Rw × Int) (r : Rw) : List Rw × Int := ((putR J r.1 r.2 s.1).1, if (putR J r.1 r.2 s.1).2 = 0 then s.2 else (putR J r.1 r.2 s.1).2)
def gat (J : Cl → Cl → Cl × Int) (l : List Rw) : List Rw × Int := l.foldl (stepG J) ([], 0)
theorem gat_nil (J : Cl → Cl → Cl × Int) : gat J [] = ([], 0) := rfl
theorem gat_snoc (J : Cl → Cl → Cl × Int) (l : List Rw) (r : Rw) : gat J (l ++ [r]) = stepG J (gat J l) r := by unfold gat; rw [List.foldl_append]; rfl
theorem snoc_ind {α : Type} {P : List α → Prop} (h0 : P []) (h1 : ∀ l r, P l → P (l ++ [r])) (l : List α) : P l := by
  have : ∀ n, ∀ l : List α, l.length = n → P l := by
    intro n
    induction n with
    | zero => intro l hl; rw [List.length_eq_zero_iff.1 hl]; exact h0
    | succ n ih =>
      intro l hl
      have hne : l ≠ [] := fun e => by rw [e] at hl; simp at hl
      rw [← List.dropLast_concat_getLast hne]
      exact h1 _ _ (ih _ (by simp [hl]))
  exact this _ l rfl
theorem rise_gat (J : Cl → Cl → Cl × Int) (l : List Rw) : RiseK (gat J l).1 := by
  induction l using snoc_ind with
  | h0 => simp [gat_nil, RiseK]
  | h1 l r ih => rw [gat_snoc]; exact rise_putR ih
/-- Just the keys that came. -/
theorem keys_gat (J : Cl → Cl → Cl × Int) (l : List Rw) (x : Ky) : (look (gat J l).1 x).isSome = true ↔ ∃ r ∈ l, r.1 = x := by
  induction l using snoc_ind with
  | h0 => simp [gat_nil, look]
  | h1 l r ih =>
    rw [gat_snoc]
    unfold stepG
    simp only
    rw [look_putR (rise_gat J l)]
    by_cases e : x = r.1
    · rw [if_pos e]
      simp only [Option.isSome_some, true_iff]
      exact ⟨r, by simp, e.symm⟩
    · rw [if_neg e, ih]
      constructor
      · rintro ⟨a, ha, h⟩; exact ⟨a, by simp [ha], h⟩
      · rintro ⟨a, ha, h⟩
        rcases List.mem_append.1 ha with ha | ha
        · exact ⟨a, ha, h⟩
        · simp at ha; subst ha; exact absurd h.symm e
theorem len_gat (J : Cl → Cl → Cl × Int) (l : List Rw) : (gat J l).1.length ≤ l.length := by
  induction l using snoc_ind with
  | h0 => simp [gat_nil]
  | h1 l r ih =>
    rw [gat_snoc]
    unfold stepG
    simp only
    rw [len_putR (rise_gat J l), List.length_append]
    split <;> simp <;> omega
/-- What holds of all cells that come, and of two together, holds of all that lie there; and what the errors are. -/
theorem all_gat {J : Cl → Cl → Cl × Int} {P : Cl → Prop} {E : Int → Prop} (hJ : ∀ a b, P a → P b → ((J a b).2 = 0 → P (J a b).1) ∧ E (J a b).2) (h0 : E 0) (l : List Rw) (hl : ∀ r ∈ l, P r.2) : (∀ x c, look (gat J l).1 x = some c → P c) ∧ E (gat J l).2 := by
  induction l using snoc_ind with
  | h0 => exact ⟨fun x c h => by simp [gat_nil, look] at h, h0⟩
  | h1 l r ih =>
    obtain ⟨i1, i2⟩ := ih (fun y hy => hl y (by simp [hy]))
    have hr := hl r (by simp)
    rw [gat_snoc]
    unfold stepG
    simp only
    rw [err_putR (rise_gat J l)]
    refine ⟨fun x c h => ?_, ?_⟩
    · rw [look_putR (rise_gat J l)] at h
      by_cases e : x = r.1
      · rw [if_pos e] at h
        injection h with h
        subst h
        cases h1 : look (gat J l).1 r.1 with
        | none => exact hr
        | some d =>
          have hd := i1 _ _ h1
          unfold both
          simp only
          split
          · next h2 => exact (hJ d r.2 hd hr).1 h2
          · exact hd
      · rw [if_neg e] at h
        exact i1 x c h
    · cases h1 : look (gat J l).1 r.1 with
      | none => unfold errB; simp only [if_true]; exact i2
      | some d =>
        unfold errB
        simp only
        split
        · exact i2
        · exact (hJ d r.2 (i1 _ _ h1) hr).2
/-- Behind others: from where they stand. -/
theorem gat_app (J : Cl → Cl → Cl × Int) (a b : List Rw) : gat J (a ++ b) = b.foldl (stepG J) (gat J a) := by unfold gat; rw [List.foldl_append]
/-- How many keys: as many as lie there. -/
theorem keys_len {J : Cl → Cl → Cl × Int} {l : List Rw} {ks : List Ky} (hk : ks.Pairwise (fun x y => ltK x y = true)) (hm : ∀ x, x ∈ ks ↔ ∃ r ∈ l, r.1 = x) : ks.length = (gat J l).1.length := by
  have : ks = (gat J l).1.map (·.1) := by
    refine strict_eq (fun x => ?_) hk (by rw [List.pairwise_map]; exact rise_gat J l)
    rw [hm, ← keys_gat J l x]
    constructor
    · intro h
      obtain ⟨c, hc⟩ := Option.isSome_iff_exists.1 h
      exact List.mem_map.2 ⟨_, look_mem hc, rfl⟩
    · intro h
      obtain ⟨r, hr, rfl⟩ := List.mem_map.1 h
      rw [mem_look (rise_gat J l) hr]
      rfl
  rw [this, List.length_map]
end Go.Proofs.Yticpaemmdfmbfaa
