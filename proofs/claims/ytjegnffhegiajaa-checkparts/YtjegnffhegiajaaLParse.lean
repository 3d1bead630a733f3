/- Programs: ops as a forest, their words, and how words are read. No program in this text. -/
import Derived.Test.YtjegnffhegiajaaLNum
import Derived.Test.YtjegnffhegiajaaLSplit
namespace Go.Proofs.Ytjegnffhegiajaa
open Go.Lib
set_option linter.unusedVariables false
set_option maxRecDepth 100000

/-- Ops: none, or one (its kind, its number, its block) and those behind it. -/
inductive Fo where
  | nil
  | cons (k n : Int) (b r : Fo)
namespace Fo
def len : Fo → Nat
  | .nil => 0
  | .cons _ _ _ r => r.len + 1
def app : Fo → Fo → Fo
  | .nil, g => g
  | .cons k n b r, g => .cons k n b (r.app g)
theorem app_nil (f : Fo) : f.app .nil = f := by
  induction f with
  | nil => rfl
  | cons k n b r _ ih => simp [app, ih]
theorem app_assoc (f g h : Fo) : (f.app g).app h = f.app (g.app h) := by
  induction f with
  | nil => rfl
  | cons k n b r _ ih => simp [app, ih]
theorem len_app (f g : Fo) : (f.app g).len = f.len + g.len := by
  induction f with
  | nil => simp [app, len]
  | cons k n b r _ ih => simp [app, len, ih]; omega
theorem len_nil {f : Fo} (h : f.len = 0) : f = .nil := by
  cases f with
  | nil => rfl
  | cons k n b r => simp [len] at h
end Fo

def hasB (k : Int) : Bool := k == 28 || k == 29
/-- The words of the kinds, by their numbers. -/
def tab : List (List UInt8) := [[], [], [97], [108, 101, 110], [118], [43], [45], [42], [47], [37], [38], [124], [94], [60, 60], [62, 62], [62, 62, 62], [60], [61], [110, 111, 116], [117, 56], [117, 49, 54], [117, 51, 50], [115, 56], [115, 49, 54], [115, 51, 50], [100, 117, 112], [115, 119, 97, 112], [112, 111, 112], [105, 102], [114, 101, 112], [101, 109, 105, 116]]
abbrev ba (l : List UInt8) : ByteArray := ⟨l.toArray⟩
theorem ba_L (s : ByteArray) : ba (L s) = s := by apply ba_ext; simp [L]
theorem L_ba (l : List UInt8) : L (ba l) = l := by simp [L]
theorem ba_inj {a b : List UInt8} : ba a = ba b ↔ a = b := ⟨fun h => by have := congrArg L h; simpa [L] using this, fun h => by rw [h]⟩
def openW : List UInt8 := [91]
def shutW : List UInt8 := [93]

/-- The kind that a word is of. -/
def kindOf (w : List UInt8) : Option Nat := tab.findIdx? (· == w)
/-- The op that a word is, but for its block. -/
def opW (w : List UInt8) : Option (Int × Int) :=
  match kindOf w with
  | some k => some ((k : Int), 0)
  | none => (numOf w).map fun n => (1, n)

/-- How words are read: an error, or ops, the words behind them, and how many ops there were. -/
inductive Rs where
  | err (e : Int)
  | ok (f : Fo) (ws : List (List UInt8)) (m : Nat)
def Rs.pre (g : Fo) : Rs → Rs
  | .err e => .err e
  | .ok f ws m => .ok (g.app f) ws m
theorem Rs.pre_nil (r : Rs) : r.pre .nil = r := by cases r <;> rfl
theorem Rs.pre_pre (r : Rs) (f g : Fo) : (r.pre g).pre f = r.pre (f.app g) := by
  cases r with
  | err e => rfl
  | ok h ws m => simp [Rs.pre, Fo.app_assoc]
abbrev one (k n : Int) (b : Fo) : Fo := .cons k n b .nil

def pl : Nat → Nat → List (List UInt8) → Nat → Option Rs
  | 0, _, _, _ => none
  | _ + 1, d, [], m => some (if 0 < d then .err 6 else .ok .nil [] m)
  | fu + 1, d, w :: ws, m =>
    if w = shutW ∧ 0 < d then some (.ok .nil ws m)
    else match opW w with
      | none => some (.err 7)
      | some (k, n) =>
        if m = 128 then some (.err 2)
        else if hasB k then
          match ws with
          | [] => some (.err 6)
          | x :: ws' =>
            if x ≠ openW then some (.err 7)
            else if 6 < d + 1 then some (.err 2)
            else match pl fu (d + 1) ws' (m + 1) with
              | none => none
              | some (.err e) => some (.err e)
              | some (.ok b ws2 m2) => (pl fu d ws2 m2).map (Rs.pre (one k n b))
        else (pl fu d ws (m + 1)).map (Rs.pre (one k n .nil))

theorem pl_mono : ∀ (fu d : Nat) (ws : List (List UInt8)) (m : Nat) (r : Rs), pl fu d ws m = some r → pl (fu + 1) d ws m = some r := by
  intro fu
  induction fu with
  | zero => intro d ws m r h; simp [pl] at h
  | succ fu ih =>
    intro d ws m r h
    cases ws with
    | nil => simpa [pl] using h
    | cons w ws =>
      rw [pl] at h ⊢
      by_cases h1 : w = shutW ∧ 0 < d
      · rw [if_pos h1] at h ⊢; exact h
      rw [if_neg h1] at h ⊢
      cases ho : opW w with
      | none => rw [ho] at h; exact h
      | some kn =>
        obtain ⟨k, n⟩ := kn
        rw [ho] at h
        simp only at h ⊢
        by_cases h2 : m = 128
        · rw [if_pos h2] at h ⊢; exact h
        rw [if_neg h2] at h ⊢
        cases hb : hasB k with
        | false =>
          rw [hb, if_neg (by simp)] at h
          rw [if_neg (by simp)]
          cases hp : pl fu d ws (m + 1) with
          | none => rw [hp] at h; simp at h
          | some r' => rw [hp] at h; rw [ih _ _ _ _ hp]; exact h
        | true =>
          rw [hb, if_pos rfl] at h
          rw [if_pos rfl]
          cases ws with
          | nil => exact h
          | cons x ws =>
            simp only at h ⊢
            by_cases h3 : x ≠ openW
            · rw [if_pos h3] at h ⊢; exact h
            rw [if_neg h3] at h ⊢
            by_cases h4 : 6 < d + 1
            · rw [if_pos h4] at h ⊢; exact h
            rw [if_neg h4] at h ⊢
            cases hp : pl fu (d + 1) ws (m + 1) with
            | none => rw [hp] at h; simp at h
            | some r' =>
              rw [hp] at h
              rw [ih _ _ _ _ hp]
              cases r' with
              | err e => exact h
              | ok b ws2 m2 =>
                simp only at h ⊢
                cases hq : pl fu d ws2 m2 with
                | none => rw [hq] at h; simp at h
                | some r2 => rw [hq] at h; rw [ih _ _ _ _ hq]; exact h
theorem pl_le {fu fu' d m : Nat} {ws : List (List UInt8)} {r : Rs} (h : pl fu d ws m = some r) (hle : fu ≤ fu') : pl fu' d ws m = some r := by
  obtain ⟨k, rfl⟩ := Nat.exists_eq_add_of_le hle
  clear hle
  induction k with
  | zero => exact h
  | succ k ih => exact pl_mono _ _ _ _ _ ih

/-- The words ws, d deep, behind m ops, are read as r. -/
def PL (d : Nat) (ws : List (List UInt8)) (m : Nat) (r : Rs) : Prop := ∃ fu, pl fu d ws m = some r
theorem PL.unique {d m : Nat} {ws : List (List UInt8)} {r r' : Rs} (h : PL d ws m r) (h' : PL d ws m r') : r = r' := by
  obtain ⟨a, ha⟩ := h
  obtain ⟨b, hb⟩ := h'
  have h1 := pl_le ha (Nat.le_add_right a b)
  have h2 := pl_le hb (Nat.le_add_left b a)
  rw [h1] at h2
  exact Option.some.inj h2

theorem shut_none : opW shutW = none := by
  unfold opW
  have h1 : kindOf shutW = none := by decide
  rw [h1]
  have h2 : parseIntB 64 shutW = .syntax := by decide +kernel
  simp [numOf, h2]
theorem open_none : opW openW = none := by
  unfold opW
  have h1 : kindOf openW = none := by decide
  rw [h1]
  have h2 : parseIntB 64 openW = .syntax := by decide +kernel
  simp [numOf, h2]
theorem not_shut {w : List UInt8} {kn : Int × Int} (h : opW w = some kn) : w ≠ shutW := by
  rintro rfl
  rw [shut_none] at h
  simp at h

theorem PL.end0 (m : Nat) : PL 0 [] m (.ok .nil [] m) := ⟨1, by simp [pl]⟩
theorem PL.endB {d : Nat} (hd : 0 < d) (m : Nat) : PL d [] m (.err 6) := ⟨1, by simp [pl, hd]⟩
theorem PL.shut {d : Nat} (hd : 0 < d) (ws : List (List UInt8)) (m : Nat) : PL d (shutW :: ws) m (.ok .nil ws m) := ⟨1, by simp [pl, hd]⟩
theorem PL.bad {d : Nat} {w : List UInt8} (hs : ¬ (w = shutW ∧ 0 < d)) (ho : opW w = none) (ws : List (List UInt8)) (m : Nat) : PL d (w :: ws) m (.err 7) := ⟨1, by rw [pl, if_neg hs, ho]⟩
theorem PL.full {w : List UInt8} {k n : Int} (ho : opW w = some (k, n)) (d : Nat) (ws : List (List UInt8)) : PL d (w :: ws) 128 (.err 2) :=
  ⟨1, by rw [pl, if_neg (fun h => not_shut ho h.1), ho]; simp⟩
theorem PL.cutB {w : List UInt8} {k n : Int} (ho : opW w = some (k, n)) (hb : hasB k = true) (d : Nat) {m : Nat} (hm : m ≠ 128) : PL d [w] m (.err 6) :=
  ⟨1, by rw [pl, if_neg (fun h => not_shut ho h.1), ho]; simp [hm, hb]⟩
theorem PL.badB {w x : List UInt8} {k n : Int} (ho : opW w = some (k, n)) (hb : hasB k = true) (d : Nat) {m : Nat} (hm : m ≠ 128) (hx : x ≠ openW) (ws : List (List UInt8)) : PL d (w :: x :: ws) m (.err 7) :=
  ⟨1, by rw [pl, if_neg (fun h => not_shut ho h.1), ho]; simp [hm, hb, hx]⟩
theorem PL.deepB {w : List UInt8} {k n : Int} (ho : opW w = some (k, n)) (hb : hasB k = true) {d : Nat} {m : Nat} (hm : m ≠ 128) (hd : 6 < d + 1) (ws : List (List UInt8)) : PL d (w :: openW :: ws) m (.err 2) :=
  ⟨1, by rw [pl, if_neg (fun h => not_shut ho h.1), ho]; simp [hm, hb, hd]⟩
theorem PL.errB {w : List UInt8} {k n : Int} (ho : opW w = some (k, n)) (hb : hasB k = true) {d : Nat} {m : Nat} (hm : m ≠ 128) (hd : ¬ 6 < d + 1) {ws : List (List UInt8)} {e : Int} (h : PL (d + 1) ws (m + 1) (.err e)) : PL d (w :: openW :: ws) m (.err e) := by
  obtain ⟨fu, h⟩ := h
  exact ⟨fu + 1, by rw [pl, if_neg (fun h => not_shut ho h.1), ho]; simp only; rw [if_neg hm, if_pos hb, if_neg (by simp), if_neg hd, h]⟩
theorem PL.blk {w : List UInt8} {k n : Int} (ho : opW w = some (k, n)) (hb : hasB k = true) {d : Nat} {m : Nat} (hm : m ≠ 128) (hd : ¬ 6 < d + 1) {ws ws2 : List (List UInt8)} {b : Fo} {m2 : Nat} {r : Rs}
    (h : PL (d + 1) ws (m + 1) (.ok b ws2 m2)) (h2 : PL d ws2 m2 r) : PL d (w :: openW :: ws) m (r.pre (one k n b)) := by
  obtain ⟨fu, h⟩ := h
  obtain ⟨fv, h2⟩ := h2
  exact ⟨fu + fv + 1, by rw [pl, if_neg (fun h => not_shut ho h.1), ho]; simp only; rw [if_neg hm, if_pos hb, if_neg (by simp), if_neg hd, pl_le h (Nat.le_add_right _ _)]; simp only; rw [pl_le h2 (Nat.le_add_left _ _)]; rfl⟩
theorem PL.one {w : List UInt8} {k n : Int} (ho : opW w = some (k, n)) (hb : hasB k = false) {d : Nat} {m : Nat} (hm : m ≠ 128) {ws : List (List UInt8)} {r : Rs} (h : PL d ws (m + 1) r) : PL d (w :: ws) m (r.pre (.cons k n .nil .nil)) := by
  obtain ⟨fu, h⟩ := h
  exact ⟨fu + 1, by rw [pl, if_neg (fun h => not_shut ho h.1), ho]; simp only; rw [if_neg hm, if_neg (by rw [hb]; simp), h]; rfl⟩

/-! ### Which words ops have -/
theorem kindOf_lt {w : List UInt8} {k : Nat} (h : kindOf w = some k) : k < 31 ∧ tab.getD k [] = w := by
  unfold kindOf at h
  obtain ⟨hk, h1, _⟩ := List.findIdx?_eq_some_iff_getElem.1 h
  refine ⟨by simpa [tab] using hk, ?_⟩
  rw [List.getD_eq_getElem?_getD, List.getElem?_eq_getElem hk]
  simpa using h1
theorem kindOf_tab : ∀ k : Fin 31, 2 ≤ k.val → kindOf (tab.getD k.val []) = some k.val := by decide +kernel
theorem tab_no_num : ∀ k : Fin 31, numOf (tab.getD k.val []) = none := by
  have h : ∀ k : Fin 31, parseIntB 64 (tab.getD k.val []) = .syntax := by decide +kernel
  intro k
  unfold numOf
  rw [h k]
theorem kind_no_num {w : List UInt8} {k : Nat} (h : kindOf w = some k) : numOf w = none := by
  obtain ⟨h1, h2⟩ := kindOf_lt h
  have := tab_no_num ⟨k, h1⟩
  simp only at this
  rw [h2] at this
  exact this
theorem num_no_kind {w : List UInt8} {n : Int} (h : numOf w = some n) : kindOf w = none := by
  cases hk : kindOf w with
  | none => rfl
  | some k => rw [kind_no_num hk] at h; simp at h
/-- The op that a word is: its kind is one, and a number is an int64. -/
theorem opW_some {w : List UInt8} {k n : Int} (hw : w ≠ []) (h : opW w = some (k, n)) : (2 ≤ k ∧ k ≤ 30 ∧ n = 0 ∧ kindOf w = some k.toNat) ∨ (k = 1 ∧ numOf w = some n ∧ kindOf w = none) := by
  unfold opW at h
  cases hk : kindOf w with
  | some j =>
    rw [hk] at h
    simp at h
    obtain ⟨rfl, rfl⟩ := h
    obtain ⟨h1, h2⟩ := kindOf_lt hk
    left
    refine ⟨?_, by omega, rfl, by simp⟩
    rcases j with _ | _ | j
    · exact absurd h2.symm hw
    · exact absurd h2.symm hw
    · omega
  | none =>
    rw [hk] at h
    cases hn : numOf w with
    | none => rw [hn] at h; simp at h
    | some v =>
      rw [hn] at h
      simp at h
      obtain ⟨rfl, rfl⟩ := h
      exact .inr ⟨rfl, rfl, rfl⟩
def wordOf (k n : Int) : List UInt8 := if k = 1 then itoa n else tab.getD k.toNat []
def alone (k n : Int) (b : Fo) : Bool := decide (1 ≤ k) && decide (k ≤ 30) && (n == 0 || k == 1) && (b.len == 0 || hasB k)
/-- The op that a word of ops is. -/
theorem opW_word {k n : Int} {b : Fo} (h : alone k n b = true) (h0 : -9223372036854775808 ≤ n) (h1 : n ≤ 9223372036854775807) : opW (wordOf k n) = some (k, n) := by
  unfold alone at h
  simp at h
  obtain ⟨⟨⟨ha, hb⟩, hc⟩, _⟩ := h
  unfold wordOf opW
  by_cases hk : k = 1
  · rw [if_pos hk]
    have hn := (numOf_iff (itoa n) n).2 ⟨rfl, h0, h1⟩
    rw [num_no_kind hn, hn]
    simp [hk]
  · rw [if_neg hk]
    have hn : n = 0 := by rcases hc with h | h
                          · exact h
                          · exact absurd h hk
    have := kindOf_tab ⟨k.toNat, by omega⟩ (by show 2 ≤ k.toNat; omega)
    simp only at this
    rw [this, hn]
    simp
    omega
theorem tab_solid : ∀ k : Fin 31, 2 ≤ k.val → tab.getD k.val [] ≠ [] ∧ (∀ c ∈ tab.getD k.val [], blankB c = false) ∧ (tab.getD k.val []).length ≤ 4 := by decide +kernel
theorem word_solid {k n : Int} {b : Fo} (h : alone k n b = true) : Solid (wordOf k n) := by
  unfold alone at h
  simp at h
  obtain ⟨⟨⟨ha, hb⟩, hc⟩, _⟩ := h
  unfold wordOf
  by_cases hk : k = 1
  · rw [if_pos hk]
    refine ⟨itoa_ne n, fun c hc => ?_⟩
    simp only [blankB, Bool.or_eq_false_iff, beq_eq_false_iff_ne]
    rcases itoa_signs n c hc with h | h
    all_goals constructor <;> (intro e; subst e; simp at h)
  · rw [if_neg hk]
    obtain ⟨h1, h2, _⟩ := tab_solid ⟨k.toNat, by omega⟩ (by show 2 ≤ k.toNat; omega)
    exact ⟨h1, h2⟩
theorem word_len {k n : Int} {b : Fo} (h : alone k n b = true) (h0 : -9223372036854775808 ≤ n) (h1 : n ≤ 9223372036854775807) : (wordOf k n).length ≤ 20 := by
  unfold alone at h
  simp at h
  obtain ⟨⟨⟨ha, hb⟩, hc⟩, _⟩ := h
  unfold wordOf
  by_cases hk : k = 1
  · rw [if_pos hk]; exact itoa_len n h0 h1
  · rw [if_neg hk]
    obtain ⟨_, _, h3⟩ := tab_solid ⟨k.toNat, by omega⟩ (by show 2 ≤ k.toNat; omega)
    simp only at h3
    omega
theorem hasB_alone {k n : Int} {b : Fo} (h : alone k n b = true) (hb : hasB k = false) : b = .nil := by
  unfold alone at h
  simp [hb] at h
  exact Fo.len_nil h.2

/-! ### Ops that may be -/
def okF : Fo → Nat → Bool
  | .nil, d => decide (d ≤ 6)
  | .cons k n b r, d => decide (d ≤ 6) && alone k n b && (!hasB k || okF b (d + 1)) && okF r d
def tot : Fo → Nat
  | .nil => 0
  | .cons k _ b r => 1 + (if hasB k then tot b else 0) + tot r
def wordsOf : Fo → List (List UInt8)
  | .nil => []
  | .cons k n b r => wordOf k n :: ((if hasB k then openW :: (wordsOf b ++ [shutW]) else []) ++ wordsOf r)
/-- Each number is an int64. -/
def WfN : Fo → Prop
  | .nil => True
  | .cons k n b r => (-9223372036854775808 ≤ k ∧ k ≤ 9223372036854775807) ∧ (-9223372036854775808 ≤ n ∧ n ≤ 9223372036854775807) ∧ WfN b ∧ WfN r
theorem tot_len (f : Fo) : f.len ≤ tot f := by
  induction f with
  | nil => simp [Fo.len, tot]
  | cons k n b r _ ih => simp only [Fo.len, tot]; omega
theorem okF_deep {f : Fo} {d : Nat} (h : okF f d = true) : d ≤ 6 := by
  cases f <;> simp [okF] at h
  · exact h
  · exact h.1.1.1

/-- The words of ops that may be are read as they. -/
theorem parse_words (f : Fo) : ∀ (d m : Nat) (rest : List (List UInt8)) (res : Rs), okF f d = true → WfN f → m + tot f ≤ 128 → PL d rest (m + tot f) res → PL d (wordsOf f ++ rest) m (res.pre f) := by
  induction f with
  | nil => intro d m rest res _ _ _ h; simpa [wordsOf, tot, Rs.pre_nil] using h
  | cons k n b r ihb ihr =>
    intro d m rest res hok hwf hm h
    simp only [okF, Bool.and_eq_true, decide_eq_true_eq] at hok
    obtain ⟨⟨⟨hd, ha⟩, hB⟩, hr⟩ := hok
    obtain ⟨hk, hn, hwb, hwr⟩ := hwf
    have ho := opW_word ha hn.1 hn.2
    simp only [tot] at hm h
    have e : res.pre (Fo.cons k n b r) = (res.pre r).pre (one k n b) := by rw [Rs.pre_pre]; rfl
    rw [e]
    cases hb : hasB k with
    | false =>
      rw [hb] at hm h
      simp only [Bool.false_eq_true, if_false] at hm h
      rw [hasB_alone ha hb]
      simp only [wordsOf, hb, Bool.false_eq_true, if_false, List.nil_append, List.cons_append]
      exact PL.one ho hb (by omega) (ihr d (m + 1) rest res hr hwr (by omega) (by rw [show m + 1 + tot r = m + (1 + 0 + tot r) by omega]; exact h))
    | true =>
      rw [hb] at hm h hB
      simp only [if_true] at hm h
      simp at hB
      simp only [wordsOf, hb, if_true, List.cons_append, List.append_assoc, List.nil_append]
      have hdB := okF_deep hB
      refine PL.blk ho hb (by omega) (by omega) (b := b) (ws2 := wordsOf r ++ rest) (m2 := m + 1 + tot b) ?_ ?_
      · have := ihb (d + 1) (m + 1) (shutW :: (wordsOf r ++ rest)) (.ok .nil (wordsOf r ++ rest) (m + 1 + tot b)) hB hwb (by omega) (PL.shut (by omega) _ _)
        simpa [Rs.pre, Fo.app_nil] using this
      · exact ihr d (m + 1 + tot b) rest res hr hwr (by omega) (by rw [show m + 1 + tot b + tot r = m + (1 + tot b + tot r) by omega]; exact h)
/-- A program's words are read as it. -/
theorem parse_prog {f : Fo} (h : okF f 0 = true) (hwf : WfN f) (ht : tot f ≤ 128) : PL 0 (wordsOf f) 0 (.ok f [] (tot f)) := by
  have := parse_words f 0 0 [] (.ok .nil [] (tot f)) h hwf (by omega) (by rw [Nat.zero_add]; exact PL.end0 _)
  simpa [Rs.pre, Fo.app_nil] using this

/-- What is read may be. -/
theorem read_ok : ∀ (fu d : Nat) (ws : List (List UInt8)) (m : Nat) (f : Fo) (ws' : List (List UInt8)) (m' : Nat), pl fu d ws m = some (.ok f ws' m') → (∀ x ∈ ws, x ≠ []) → d ≤ 6 → m ≤ 128 →
    okF f d = true ∧ WfN f ∧ m' = m + tot f ∧ m' ≤ 128 ∧ ∃ u, ws = u ++ ws' := by
  intro fu
  induction fu with
  | zero => intro d ws m f ws' m' h; simp [pl] at h
  | succ fu ih =>
    intro d ws m f ws' m' h hne hd hm
    cases ws with
    | nil =>
      simp only [pl] at h
      by_cases h0 : 0 < d
      · simp [h0] at h
      · simp [h0] at h
        obtain ⟨rfl, rfl, rfl⟩ := h
        exact ⟨by simp [okF, hd], trivial, by simp [tot], hm, [], rfl⟩
    | cons w ws =>
      rw [pl] at h
      by_cases h1 : w = shutW ∧ 0 < d
      · rw [if_pos h1] at h
        simp at h
        obtain ⟨rfl, rfl, rfl⟩ := h
        exact ⟨by simp [okF, hd], trivial, by simp [tot], hm, [w], rfl⟩
      rw [if_neg h1] at h
      cases ho : opW w with
      | none => rw [ho] at h; simp at h
      | some kn =>
        obtain ⟨k, n⟩ := kn
        rw [ho] at h
        simp only at h
        by_cases h2 : m = 128
        · rw [if_pos h2] at h; simp at h
        rw [if_neg h2] at h
        have hkn : alone k n .nil = true ∧ (hasB k = true → ∀ b, alone k n b = true) ∧ (-9223372036854775808 ≤ k ∧ k ≤ 9223372036854775807) ∧ (-9223372036854775808 ≤ n ∧ n ≤ 9223372036854775807) := by
          rcases opW_some (hne w (by simp)) ho with ⟨a, b, rfl, _⟩ | ⟨rfl, hn, _⟩
          · exact ⟨by simp [alone, Fo.len]; omega, fun hb c => by simp [alone, hb]; omega, by omega, by omega⟩
          · have := (numOf_iff w n).1 hn
            exact ⟨by simp [alone, Fo.len], fun hb c => by simp [hasB] at hb, by omega, this.2⟩
        cases hb : hasB k with
        | false =>
          rw [hb, if_neg (by simp)] at h
          cases hp : pl fu d ws (m + 1) with
          | none => rw [hp] at h; simp at h
          | some r' =>
            rw [hp] at h
            cases r' with
            | err e => simp [Rs.pre] at h
            | ok g ws2 m2 =>
              simp [Rs.pre, Fo.app] at h
              obtain ⟨rfl, rfl, rfl⟩ := h
              obtain ⟨a1, a2, a3, a4, u, a5⟩ := ih _ _ _ _ _ _ hp (fun x hx => hne x (by simp [hx])) hd (by omega)
              exact ⟨by simp [okF, hd, hkn.1, hb, a1], ⟨hkn.2.2.1, hkn.2.2.2, trivial, a2⟩, by simp [tot, hb]; omega, a4, w :: u, by rw [a5]; rfl⟩
        | true =>
          rw [hb, if_pos rfl] at h
          cases ws with
          | nil => simp at h
          | cons x ws =>
            simp only at h
            by_cases h3 : x ≠ openW
            · rw [if_pos h3] at h; simp at h
            rw [if_neg h3] at h
            by_cases h4 : 6 < d + 1
            · rw [if_pos h4] at h; simp at h
            rw [if_neg h4] at h
            cases hp : pl fu (d + 1) ws (m + 1) with
            | none => rw [hp] at h; simp at h
            | some r' =>
              rw [hp] at h
              cases r' with
              | err e => simp at h
              | ok b ws2 m2 =>
                simp only at h
                cases hq : pl fu d ws2 m2 with
                | none => rw [hq] at h; simp at h
                | some r2 =>
                  rw [hq] at h
                  cases r2 with
                  | err e => simp [Rs.pre] at h
                  | ok g ws3 m3 =>
                    simp [Rs.pre, Fo.app] at h
                    obtain ⟨rfl, rfl, rfl⟩ := h
                    obtain ⟨a1, a2, a3, a4, u, a5⟩ := ih _ _ _ _ _ _ hp (fun x hx => hne x (by simp [hx])) (by omega) (by omega)
                    obtain ⟨b1, b2, b3, b4, v, b5⟩ := ih _ _ _ _ _ _ hq (fun x hx => hne x (by simp [a5, hx])) hd a4
                    exact ⟨by simp [okF, hd, hkn.2.1 hb, hb, a1, b1], ⟨hkn.2.2.1, hkn.2.2.2, a2, b2⟩, by simp [tot, hb]; omega, b4, w :: x :: (u ++ v), by rw [a5, b5]; simp⟩
end Go.Proofs.Ytjegnffhegiajaa
