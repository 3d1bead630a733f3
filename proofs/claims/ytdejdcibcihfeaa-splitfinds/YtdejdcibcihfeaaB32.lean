/- What the calls answer (stage 12). No program in this text. -/
import Derived.Test.YtdejdcibcihfeaaB8
namespace Go.Proofs.Ytdejdcibcihfeaa
open Go.RowKit
set_option linter.unusedVariables false
set_option maxRecDepth 100000

def checkRes (c : Cfg) : Int := if cfgB c then 0 else 1
def findRes (c : Cfg) (i : Int) : Sp × Int := if cfgB c then (match findC c.splits i with | none => (s0, 3) | some k => (c.splits.getD k s0, 0)) else (s0, 1)
def nextRes (c : Cfg) (i site : Int) : Int × Int := if cfgB c && decide (0 ≤ site ∧ site ≤ c.sites) then (match findC c.splits i with | none => (0, 3) | some k => (nextL (c.splits.getD k s0).2.2 site, 0)) else (0, 1)
def recsRes (c : Cfg) (l : List Int) : List Rc × Int := if cfgB c then recsL c.splits l else ([], 1)
theorem findRes_bad {c : Cfg} (h : cfgB c = false) (i : Int) : findRes c i = (s0, 1) := by unfold findRes; rw [h]; rfl
theorem findRes_none {c : Cfg} (h : cfgB c = true) {i : Int} (hi : findC c.splits i = none) : findRes c i = (s0, 3) := by unfold findRes; rw [h, hi]; rfl
theorem findRes_some {c : Cfg} (h : cfgB c = true) {i : Int} {k : Nat} {s : Sp} (hi : findC c.splits i = some k) (hs : c.splits[k]? = some s) : findRes c i = (s, 0) := by
  unfold findRes
  rw [h, hi]
  simp [List.getD_eq_getElem?_getD, hs]
theorem nextRes_bad {c : Cfg} (h : cfgB c = false) (i site : Int) : nextRes c i site = (0, 1) := by unfold nextRes; rw [h]; rfl
theorem nextRes_site {c : Cfg} {i site : Int} (h : ¬ (0 ≤ site ∧ site ≤ c.sites)) : nextRes c i site = (0, 1) := by unfold nextRes; rw [decide_eq_false h, Bool.and_false]; rfl
theorem nextRes_none {c : Cfg} (h : cfgB c = true) {i site : Int} (hs : 0 ≤ site ∧ site ≤ c.sites) (hi : findC c.splits i = none) : nextRes c i site = (0, 3) := by unfold nextRes; rw [h, decide_eq_true hs, hi]; rfl
theorem nextRes_some {c : Cfg} (h : cfgB c = true) {i site : Int} (hs : 0 ≤ site ∧ site ≤ c.sites) {k : Nat} {s : Sp} (hi : findC c.splits i = some k) (hk : c.splits[k]? = some s) : nextRes c i site = (nextL s.2.2 site, 0) := by
  unfold nextRes
  rw [h, decide_eq_true hs, hi]
  simp [List.getD_eq_getElem?_getD, hk]
/-- One ID more. -/
def recsN (S : List Sp) (r : List Rc × Int) (i : Int) : List Rc × Int := if r.2 = 0 then (match findC S i with | none => ([], 3) | some k => (r.1 ++ recsS (S.getD k s0), 0)) else ([], 3)
theorem recsL_snoc (S : List Sp) (l : List Int) (i : Int) : recsL S (l ++ [i]) = recsN S (recsL S l) i := by
  unfold recsN
  induction l with
  | nil =>
    show recsL S [i] = _
    unfold recsL
    cases findC S i with
    | none => rfl
    | some k => simp [recsL]
  | cons a l ih =>
    show recsL S (a :: (l ++ [i])) = _
    rw [recsL.eq_def]
    simp only
    rw [recsL.eq_def S (a :: l)]
    simp only
    cases ha : findC S a with
    | none => simp
    | some k =>
      simp only
      rw [ih]
      by_cases h0 : (recsL S l).2 = 0
      · rw [if_pos h0, if_pos h0, if_pos rfl]
        cases findC S i with
        | none => simp
        | some j => simp
      · rw [if_neg h0, if_neg h0]
        simp
theorem recsL_err (S : List Sp) (l : List Int) : (recsL S l).2 = 0 ∨ recsL S l = ([], 3) := by
  cases l with
  | nil => exact .inl rfl
  | cons a l =>
    rw [recsL.eq_def]
    simp only
    cases findC S a with
    | none => exact .inr rfl
    | some k =>
      simp only
      split
      · exact .inl rfl
      · exact .inr rfl
theorem recsL_len (S : List Sp) : ∀ l : List Int, (recsL S l).1.length ≤ 64 * l.length
  | [] => by simp [recsL]
  | a :: l => by
    rw [recsL.eq_def]
    simp only
    have ih := recsL_len S l
    cases findC S a with
    | none => simp
    | some k =>
      simp only
      split
      · have := recsS_len (S.getD k s0)
        rw [List.length_append, List.length_cons]
        omega
      · simp
/-- Where the next turn stands: the site that came last has the next one behind it. -/
def NextAt (l : List Int) (k : Nat) (site : Int) : Prop := (∀ x, k < l.length → l[k]? = some x → nextL l site = x) ∧ (∀ x, k = l.length → l[0]? = some x → nextL l site = x)
theorem NextAt.zero {l : List Int} (h : ∀ x ∈ l, 1 ≤ x) (hl : 0 < l.length) : NextAt l 0 0 := ⟨fun x _ hx => next_zero h hx, fun x h0 => by omega⟩
theorem NextAt.step {l : List Int} (h : l.Pairwise (· < ·)) {k : Nat} {x : Int} (hx : l[k]? = some x) : NextAt l (k + 1) x := by
  have hk := (List.getElem?_eq_some_iff.1 hx).1
  exact ⟨fun y _ hy => next_step h hx hy, fun y he hy => next_turn h (by rw [show l.length - 1 = k by omega]; exact hx) hy⟩
theorem NextAt.turn {l : List Int} {site : Int} (h : NextAt l l.length site) : NextAt l 0 site := ⟨fun x _ hx => h.2 x rfl hx, fun x he hx => by
  have := (List.getElem?_eq_some_iff.1 hx).1
  omega⟩
end Go.Proofs.Ytdejdcibcihfeaa
