/- The text of ops: as the page's own writes it, and joined out of words: the same. No program in this text. -/
import Derived.Test.YtjegnffhegiajaaLParse
namespace Go.Proofs.Ytjegnffhegiajaa
open Go.Lib
set_option linter.unusedVariables false
set_option maxRecDepth 100000

/-- The text as the page's own writes it: op by op, a blank ahead of each but the first. -/
def txt : Bool → Fo → List UInt8
  | _, .nil => []
  | first, .cons k n b r => (if first then [] else [32]) ++ (wordOf k n ++ (if hasB k then [32, 91, 32] ++ ((if txt true b = [] then [] else txt true b ++ [32]) ++ [93]) else [])) ++ txt false r
def textOf (f : Fo) : List UInt8 := join (wordsOf f) [32]

theorem jt_cons (x : List UInt8) (r : List (List UInt8)) : joinTail [32] (x :: r) = 32 :: (x ++ joinTail [32] r) := by simp [joinTail]
theorem jt_app (a b : List (List UInt8)) : joinTail [32] (a ++ b) = joinTail [32] a ++ joinTail [32] b := by simp [joinTail]
theorem jt_nil : joinTail [32] [] = [] := rfl
theorem txt_jt (f : Fo) : ∀ d, okF f d = true → txt false f = joinTail [32] (wordsOf f) ∧ txt true f = textOf f := by
  induction f with
  | nil => intro d _; exact ⟨rfl, rfl⟩
  | cons k n b r ihb ihr =>
    intro d hok
    simp only [okF, Bool.and_eq_true, decide_eq_true_eq] at hok
    obtain ⟨⟨⟨hd, ha⟩, hB⟩, hr⟩ := hok
    obtain ⟨hr1, _⟩ := ihr d hr
    have hmid : (if hasB k then [32, 91, 32] ++ ((if txt true b = [] then [] else txt true b ++ [32]) ++ [93]) else []) = joinTail [32] (if hasB k then openW :: (wordsOf b ++ [shutW]) else []) := by
      cases hb : hasB k with
      | false => simp [jt_nil]
      | true =>
        rw [hb] at hB
        simp at hB
        obtain ⟨_, hb2⟩ := ihb (d + 1) hB
        simp only [if_true]
        rw [jt_cons, jt_app, jt_cons, jt_nil, hb2]
        cases b with
        | nil => simp [textOf, wordsOf, join_nil, jt_nil, openW, shutW]
        | cons k' n' b' r' =>
          have hw : (wordOf k' n') ≠ [] := by
            simp only [okF, Bool.and_eq_true, decide_eq_true_eq] at hB
            exact (word_solid hB.1.1.2).1
          have hne : textOf (.cons k' n' b' r') ≠ [] := by
            simp only [textOf, wordsOf]
            rw [join_cons]
            simp [hw]
          rw [if_neg hne]
          simp only [textOf, wordsOf]
          rw [join_cons, jt_cons]
          simp [openW, shutW]
    constructor
    · simp only [txt, wordsOf, Bool.false_eq_true, if_false]
      rw [hmid, hr1, jt_cons, jt_app]
      simp
    · simp only [txt, textOf, wordsOf, if_true]
      rw [hmid, hr1, join_cons, jt_app]
      simp
theorem words_solid (f : Fo) : ∀ d, okF f d = true → ∀ x ∈ wordsOf f, Solid x := by
  induction f with
  | nil => intro d _ x hx; simp [wordsOf] at hx
  | cons k n b r ihb ihr =>
    intro d hok x hx
    simp only [okF, Bool.and_eq_true, decide_eq_true_eq] at hok
    obtain ⟨⟨⟨hd, ha⟩, hB⟩, hr⟩ := hok
    have ho : Solid openW := ⟨by simp [openW], by decide⟩
    have hs : Solid shutW := ⟨by simp [shutW], by decide⟩
    simp only [wordsOf, List.mem_cons, List.mem_append] at hx
    rcases hx with rfl | hx | hx
    · exact word_solid ha
    · cases hb : hasB k with
      | false => simp [hb] at hx
      | true =>
        rw [hb] at hB
        simp at hB
        simp [hb] at hx
        rcases hx with rfl | hx | rfl
        · exact ho
        · exact ihb (d + 1) hB x hx
        · exact hs
    · exact ihr d hr x hx
theorem words_many (f : Fo) : (wordsOf f).length ≤ 3 * tot f := by
  induction f with
  | nil => simp [wordsOf, tot]
  | cons k n b r ihb ihr =>
    simp only [wordsOf, tot, List.length_cons, List.length_append]
    split
    · simp; omega
    · simp; omega
theorem words_len (f : Fo) : ∀ d, okF f d = true → WfN f → ∀ x ∈ wordsOf f, x.length ≤ 20 := by
  induction f with
  | nil => intro d _ _ x hx; simp [wordsOf] at hx
  | cons k n b r ihb ihr =>
    intro d hok hwf x hx
    simp only [okF, Bool.and_eq_true, decide_eq_true_eq] at hok
    obtain ⟨⟨⟨hd, ha⟩, hB⟩, hr⟩ := hok
    obtain ⟨hk, hn, hwb, hwr⟩ := hwf
    simp only [wordsOf, List.mem_cons, List.mem_append] at hx
    rcases hx with rfl | hx | hx
    · exact word_len ha hn.1 hn.2
    · cases hb : hasB k with
      | false => simp [hb] at hx
      | true =>
        rw [hb] at hB
        simp at hB
        simp [hb] at hx
        rcases hx with rfl | hx | rfl
        · simp [openW]
        · exact ihb (d + 1) hB hwb x hx
        · simp [shutW]
    · exact ihr d hr hwr x hx
theorem jt_len (ws : List (List UInt8)) (h : ∀ x ∈ ws, x.length ≤ 20) : (joinTail [32] ws).length ≤ 21 * ws.length := by
  induction ws with
  | nil => simp [jt_nil]
  | cons x ws ih =>
    rw [jt_cons]
    have := h x (by simp)
    have := ih (fun y hy => h y (by simp [hy]))
    simp only [List.length_cons, List.length_append]
    omega
theorem text_len {f : Fo} {d : Nat} (h : okF f d = true) (hwf : WfN f) : (textOf f).length ≤ 63 * tot f := by
  have h1 := words_len f d h hwf
  have h2 := words_many f
  unfold textOf
  cases hw : wordsOf f with
  | nil => simp [join_nil]
  | cons x ws =>
    rw [hw] at h1 h2
    rw [join_cons, List.length_append]
    have := h1 x (by simp)
    have := jt_len ws (fun y hy => h1 y (by simp [hy]))
    simp only [List.length_cons] at h2
    omega
/-- A program's text is read as it, also with needless blanks around it. -/
theorem split_text {f : Fo} (h : okF f 0 = true) (t : List UInt8) (ht : ∀ c ∈ t, blankB c = true) : splitG [] (textOf f ++ t) = wordsOf f := split_join _ _ (words_solid f 0 h) ht
theorem split_text0 {f : Fo} (h : okF f 0 = true) : splitG [] (textOf f) = wordsOf f := by
  have := split_text h [] (fun c hc => by cases hc)
  simpa using this
theorem split_text2 {f : Fo} (h : okF f 0 = true) : splitG [] ([32, 10] ++ textOf f ++ [10, 32]) = wordsOf f := by
  rw [List.append_assoc, List.cons_append, List.cons_append, List.nil_append, split_lead _ _ (by decide), split_lead _ _ (by decide)]
  exact split_text h _ (by decide)

/-! ### How many ops there are -/
/-- The page's own count. -/
theorem tot_cons (k n : Int) (b r : Fo) : tot (.cons k n b r) = 1 + (if hasB k then tot b else 0) + tot r := rfl
end Go.Proofs.Ytjegnffhegiajaa
