/- Texts laid together: RBase, WPart. -/
import Derived.Test.YtejgcflcckjlpaaDoorOC1
/- Records as pairs of a key and a number. -/
namespace Go.Proofs.YtejgcflcckjlpaaDoor
set_option linter.unusedVariables false
set_option maxRecDepth 100000

abbrev Rc := Ky × Int
abbrev r0 : Rc := (k0, 0)
def encR (x : Rc) : List Value := [.int .i64 x.1.1, .string x.1.2, .int .i64 x.2]
end Go.Proofs.YtejgcflcckjlpaaDoor
/- Folded in parts, and joined in whatever order. No program in this text. -/
namespace Go.Proofs.YtejgcflcckjlpaaDoor
open Go.RowKit
set_option linter.unusedVariables false
set_option maxRecDepth 100000

theorem uni_comm {a b : List Int} (ha : Rise a) (hb : Rise b) : uni a b = uni b a := rise_ext (rise_uni a hb) (rise_uni b ha) fun z => by rw [mem_uni, mem_uni]; exact Or.comm
theorem nF_comm (agg x y : Int) : nF agg x y = nF agg y x := by
  unfold nF
  by_cases h1 : agg = 1
  · rw [if_pos h1]; unfold sumF; rw [Int.add_comm]
  rw [if_neg h1]
  by_cases h2 : agg = 2
  · rw [if_pos h2]; unfold cntF; split <;> split <;> omega
  rw [if_neg h2]
  by_cases h3 : agg = 3
  · rw [if_pos h3]; omega
  rw [if_neg h3]
  by_cases h4 : agg = 4
  · rw [if_pos h4]; omega
  rw [if_neg h4]
  show IntKind.i64.wrap ((BitVec.ofInt 64 x ||| BitVec.ofInt 64 y).toNat : Int) = IntKind.i64.wrap ((BitVec.ofInt 64 y ||| BitVec.ofInt 64 x).toNat : Int)
  rw [BitVec.or_comm]
theorem joinC_comm {agg : Int} {bd : Nat} {a b : Cl} (ha : Rise a.2) (hb : Rise b.2) : joinC agg bd a b = joinC agg bd b a := by
  unfold joinC
  rw [uni_comm ha hb, nF_comm]
theorem joinC_err (agg : Int) (bd : Nat) (a b : Cl) : (joinC agg bd a b).2 = 0 ∨ (joinC agg bd a b).2 = 11 := by
  unfold joinC
  split
  · split
    · exact .inl rfl
    · exact .inr rfl
  · exact .inl rfl
theorem allC_rise (agg : Int) (bd : Nat) (l : List Int) : Rise (allC agg bd l).1.2 := by
  unfold allC
  split
  · split
    · exact rise_once l
    · exact Rise.nil
  · exact Rise.nil
theorem allC_err (agg : Int) (bd : Nat) (l : List Int) : (allC agg bd l).2 = 0 ∨ (allC agg bd l).2 = 11 := by
  unfold allC
  split
  · split
    · exact .inl rfl
    · exact .inr rfl
  · exact .inl rfl
/-- The numbers of a key. -/
def valsK (k : Ky) (l : List Rc) : List Int := (l.filter fun r => decide (r.1 = k)).map (·.2)
theorem vals_app (k : Ky) (a b : List Rc) : valsK k (a ++ b) = valsK k a ++ valsK k b := by unfold valsK; rw [List.filter_append, List.map_append]
theorem vals_same (k : Ky) (v : Int) : valsK k [(k, v)] = [v] := by simp [valsK]
theorem vals_other {k k' : Ky} (v : Int) (h : k' ≠ k) : valsK k [(k', v)] = [] := by simp [valsK, h]
def ones (agg : Int) (l : List Rc) : List Rw := l.map fun r => (r.1, oneC agg r.2)
theorem ones_app (agg : Int) (a b : List Rc) : ones agg (a ++ b) = ones agg a ++ ones agg b := by unfold ones; rw [List.map_append]
def foldR (agg : Int) (bd : Nat) (l : List Rc) : List Rw × Int := gat (joinC agg bd) (ones agg l)
theorem foldR_snoc (agg : Int) (bd : Nat) (l : List Rc) (r : Rc) : foldR agg bd (l ++ [r]) = stepG (joinC agg bd) (foldR agg bd l) (r.1, oneC agg r.2) := by
  unfold foldR
  rw [ones_app]
  exact gat_snoc _ _ _
theorem fold_rise (agg : Int) (bd : Nat) (l : List Rc) : RiseK (foldR agg bd l).1 := rise_gat _ _
theorem gat_err (agg : Int) (bd : Nat) (l : List Rw) : (gat (joinC agg bd) l).2 = 0 ∨ (gat (joinC agg bd) l).2 = 11 :=
  (all_gat (P := fun _ => True) (E := fun e => e = 0 ∨ e = 11) (fun a b _ _ => ⟨fun _ => trivial, joinC_err agg bd a b⟩) (.inl rfl) l (fun _ _ => trivial)).2
/-- What lies under each key, and when there is an error. -/
theorem fold_told (agg : Int) (bd : Nat) (hb : agg = 6 → 1 ≤ bd) (l : List Rc) :
    ((foldR agg bd l).2 = 0 → ∀ k, look (foldR agg bd l).1 k = (if valsK k l = [] then none else some (allC agg bd (valsK k l)).1) ∧ (valsK k l ≠ [] → (allC agg bd (valsK k l)).2 = 0)) ∧
    ((foldR agg bd l).2 ≠ 0 → ∃ k, valsK k l ≠ [] ∧ (allC agg bd (valsK k l)).2 ≠ 0) := by
  induction l using snoc_ind with
  | h0 => exact ⟨fun _ k => ⟨rfl, fun h => absurd rfl h⟩, fun h => absurd rfl h⟩
  | h1 l r ih =>
    obtain ⟨k0, v⟩ := r
    obtain ⟨i1, i2⟩ := ih
    have hone := allC_one agg bd v hb
    have herr := err_putR (J := joinC agg bd) (k := k0) (c := oneC agg v) (fold_rise agg bd l)
    rw [foldR_snoc]
    unfold stepG
    simp only
    have hwit : (∃ k, valsK k l ≠ [] ∧ (allC agg bd (valsK k l)).2 ≠ 0) → ∃ k, valsK k (l ++ [(k0, v)]) ≠ [] ∧ (allC agg bd (valsK k (l ++ [(k0, v)]))).2 ≠ 0 := by
      rintro ⟨k, hk, he⟩
      refine ⟨k, by rw [vals_app]; simp [hk], ?_⟩
      rw [vals_app]
      by_cases e : k0 = k
      · subst e
        rw [vals_same, ((allC_app agg bd _ [v] hk (by simp)).2 (.inl he)).1]
        decide
      · rw [vals_other v e, List.append_nil]
        exact he
    by_cases h0 : (foldR agg bd l).2 = 0
    · have t1 := i1 h0
      rw [herr, (t1 k0).1]
      by_cases hv : valsK k0 l = []
      · rw [if_pos hv]
        refine ⟨fun _ k => ?_, fun h => ?_⟩
        · rw [look_putR (fold_rise agg bd l), vals_app]
          by_cases e : k = k0
          · subst e
            rw [if_pos rfl, vals_same, hv, (t1 k).1, if_pos hv, List.nil_append, if_neg (by simp), hone]
            exact ⟨rfl, fun _ => rfl⟩
          · rw [if_neg e, vals_other v (fun e' => e e'.symm), List.append_nil]
            exact t1 k
        · simp only [errB, if_true] at h
          exact absurd h0 h
      · rw [if_neg hv]
        have happ := (allC_app agg bd (valsK k0 l) [v] hv (by simp)).1 ((t1 k0).2 hv) (by rw [hone])
        rw [hone] at happ
        rw [show errB (joinC agg bd) (oneC agg v) (some (allC agg bd (valsK k0 l)).1) = (allC agg bd (valsK k0 l ++ [v])).2 by rw [happ]; rfl]
        refine ⟨fun h k => ?_, fun h => ?_⟩
        · have he : (allC agg bd (valsK k0 l ++ [v])).2 = 0 := by
            by_cases h2 : (allC agg bd (valsK k0 l ++ [v])).2 = 0
            · exact h2
            · rw [if_neg h2] at h; exact h
          rw [look_putR (fold_rise agg bd l), vals_app]
          by_cases e : k = k0
          · subst e
            rw [if_pos rfl, vals_same, (t1 k).1, if_neg hv, if_neg (by simp)]
            refine ⟨?_, fun _ => he⟩
            rw [both, show joinC agg bd (allC agg bd (valsK k l)).1 (oneC agg v) = allC agg bd (valsK k l ++ [v]) from happ.symm, if_pos he]
          · rw [if_neg e, vals_other v (fun e' => e e'.symm), List.append_nil]
            exact t1 k
        · refine ⟨k0, by rw [vals_app, vals_same]; simp, ?_⟩
          rw [vals_app, vals_same]
          intro h2
          rw [if_pos h2] at h
          exact h h0
    · have w2 := hwit (i2 h0)
      refine ⟨fun h => ?_, fun _ => w2⟩
      exfalso
      split at h
      · exact h0 h
      · next h3 => exact h3 h
/-- Rows that rise stay as they are. -/
theorem gat_rise (J : Cl → Cl → Cl × Int) (A : List Rw) (h : RiseK A) : gat J A = (A, 0) := by
  induction A using snoc_ind with
  | h0 => rfl
  | h1 l r ih =>
    unfold RiseK at h
    rw [List.pairwise_append] at h
    rw [gat_snoc, ih h.1]
    unfold stepG
    have hlt : ∀ y ∈ l, ltK y.1 r.1 = true := fun y hy => h.2.2 y hy r (by simp)
    have hp := (putR_at (J := J) (k := r.1) (c := r.2) (n := l.length) h.1 (Nat.le_refl _) (fun y hy => hlt y (by simpa using hy)) (by simp)).2 (by simp)
    rw [hp]
    simp
/-- Two that rise, joined. -/
def meet (J : Cl → Cl → Cl × Int) : Option Cl → Option Cl → Option Cl
  | none, y => y
  | some a, none => some a
  | some a, some b => some (both J b (some a))
theorem look_app {l : List Rw} {r : Rw} {k : Ky} : look (l ++ [r]) k = match look l k with | some c => some c | none => if r.1 = k then some r.2 else none := by
  induction l with
  | nil => rfl
  | cons a l ih =>
    rw [List.cons_append]
    unfold look
    split
    · rfl
    · exact ih
theorem gat_two (J : Cl → Cl → Cl × Int) (A B : List Rw) (hA : RiseK A) (hB : RiseK B) :
    (∀ k, look (gat J (A ++ B)).1 k = meet J (look A k) (look B k)) ∧ ((gat J (A ++ B)).2 = 0 ↔ ∀ k a b, look A k = some a → look B k = some b → (J a b).2 = 0) := by
  induction B using snoc_ind with
  | h0 =>
    rw [List.append_nil, gat_rise J A hA]
    refine ⟨fun k => ?_, ⟨fun _ k a b _ h => by simp [look] at h, fun _ => rfl⟩⟩
    show look A k = meet J (look A k) none
    cases look A k <;> rfl
  | h1 B r ih =>
    unfold RiseK at hB
    rw [List.pairwise_append] at hB
    obtain ⟨i1, i2⟩ := ih hB.1
    have hnB : look B r.1 = none := look_none.2 fun y hy => ltK_ne (hB.2.2 y hy r (by simp))
    have hr := rise_gat J (A ++ B)
    have hk : look (gat J (A ++ B)).1 r.1 = look A r.1 := by
      rw [i1, hnB]
      cases look A r.1 <;> rfl
    rw [← List.append_assoc, gat_snoc]
    unfold stepG
    simp only
    rw [err_putR hr, hk]
    refine ⟨fun k => ?_, ?_⟩
    · rw [look_putR hr, look_app]
      by_cases e : k = r.1
      · subst e
        rw [if_pos rfl, hnB, hk]
        simp only [if_true]
        cases look A r.1 <;> rfl
      · rw [if_neg e, i1]
        cases look B k with
        | none => simp only; rw [if_neg (fun e' => e e'.symm)]
        | some c => rfl
    · constructor
      · intro h
        have h2 : errB J r.2 (look A r.1) = 0 ∧ (gat J (A ++ B)).2 = 0 := by
          by_cases h3 : errB J r.2 (look A r.1) = 0
          · rw [if_pos h3] at h; exact ⟨h3, h⟩
          · rw [if_neg h3] at h; exact absurd h h3
        intro k a b ha hb'
        rw [look_app] at hb'
        cases h4 : look B k with
        | some c =>
          rw [h4] at hb'
          injection hb' with hb'
          subst hb'
          exact i2.1 h2.2 k a c ha h4
        | none =>
          rw [h4] at hb'
          simp only at hb'
          by_cases e : r.1 = k
          · subst e
            rw [if_pos rfl] at hb'
            injection hb' with hb'
            subst hb'
            have := h2.1
            rw [ha] at this
            exact this
          · rw [if_neg e] at hb'; cases hb'
      · intro h
        have h3 : errB J r.2 (look A r.1) = 0 := by
          cases ha : look A r.1 with
          | none => rfl
          | some a => exact h r.1 a r.2 ha (by rw [look_app, hnB]; simp)
        rw [if_pos h3]
        exact i2.2 fun k a b ha hb' => h k a b ha (by rw [look_app, hb'])
/-- What is handed back: the rows, or the error alone. -/
def fin (s : List Rw × Int) : List Rw × Int := if s.2 = 0 then s else ([], s.2)
theorem fin_ok {s : List Rw × Int} (h : s.2 = 0) : fin s = s := by unfold fin; rw [if_pos h]
theorem fin_bad {s : List Rw × Int} (h : s.2 ≠ 0) : fin s = ([], s.2) := by unfold fin; rw [if_neg h]
/-- Folded in parts: an error in one is an error in all; else the two joined are the fold of all, in whatever order. -/
theorem parts_bad (agg : Int) (bd : Nat) (hb : agg = 6 → 1 ≤ bd) (L1 L2 : List Rc) (h : (foldR agg bd L1).2 ≠ 0 ∨ (foldR agg bd L2).2 ≠ 0) : (foldR agg bd (L1 ++ L2)).2 = 11 := by
  rcases gat_err agg bd (ones agg (L1 ++ L2)) with h0 | h0
  · exfalso
    have t := (fold_told agg bd hb (L1 ++ L2)).1 h0
    rcases h with h | h
    · obtain ⟨k, hk, he⟩ := (fold_told agg bd hb L1).2 h
      have := (t k).2 (by rw [vals_app]; simp [hk])
      rw [vals_app] at this
      by_cases h2 : valsK k L2 = []
      · rw [h2, List.append_nil] at this; exact he this
      · rw [((allC_app agg bd _ _ hk h2).2 (.inl he)).1] at this; cases this
    · obtain ⟨k, hk, he⟩ := (fold_told agg bd hb L2).2 h
      have := (t k).2 (by rw [vals_app]; simp [hk])
      rw [vals_app] at this
      by_cases h2 : valsK k L1 = []
      · rw [h2, List.nil_append] at this; exact he this
      · rw [((allC_app agg bd _ _ h2 hk).2 (.inr he)).1] at this; cases this
  · exact h0
theorem parts_ok (agg : Int) (bd : Nat) (hb : agg = 6 → 1 ≤ bd) (L1 L2 : List Rc) (h1 : (foldR agg bd L1).2 = 0) (h2 : (foldR agg bd L2).2 = 0) :
    fin (gat (joinC agg bd) ((foldR agg bd L1).1 ++ (foldR agg bd L2).1)) = fin (foldR agg bd (L1 ++ L2)) ∧ fin (gat (joinC agg bd) ((foldR agg bd L2).1 ++ (foldR agg bd L1).1)) = fin (foldR agg bd (L1 ++ L2)) := by
  have t1 := (fold_told agg bd hb L1).1 h1
  have t2 := (fold_told agg bd hb L2).1 h2
  have r1 := fold_rise agg bd L1
  have r2 := fold_rise agg bd L2
  obtain ⟨g1, g2⟩ := gat_two (joinC agg bd) _ _ r1 r2
  obtain ⟨g3, g4⟩ := gat_two (joinC agg bd) _ _ r2 r1
  -- two cells of one key
  have hj : ∀ k, valsK k L1 ≠ [] → valsK k L2 ≠ [] → joinC agg bd (allC agg bd (valsK k L1)).1 (allC agg bd (valsK k L2)).1 = allC agg bd (valsK k (L1 ++ L2)) ∧ joinC agg bd (allC agg bd (valsK k L2)).1 (allC agg bd (valsK k L1)).1 = allC agg bd (valsK k (L1 ++ L2)) := by
    intro k n1 n2
    have := (allC_app agg bd _ _ n1 n2).1 ((t1 k).2 n1) ((t2 k).2 n2)
    rw [vals_app]
    refine ⟨this.symm, ?_⟩
    rw [joinC_comm (allC_rise _ _ _) (allC_rise _ _ _)]
    exact this.symm
  have lk : ∀ {L : List Rc} {k : Ky} {a : Cl}, (look (foldR agg bd L).1 k = (if valsK k L = [] then none else some (allC agg bd (valsK k L)).1)) → look (foldR agg bd L).1 k = some a → valsK k L ≠ [] ∧ a = (allC agg bd (valsK k L)).1 := by
    intro L k a e1 e2
    rw [e1] at e2
    by_cases h : valsK k L = []
    · rw [if_pos h] at e2; cases e2
    · rw [if_neg h] at e2
      injection e2 with e2
      exact ⟨h, e2.symm⟩
  have kl : ∀ {L : List Rc} {k : Ky}, (look (foldR agg bd L).1 k = (if valsK k L = [] then none else some (allC agg bd (valsK k L)).1)) → valsK k L ≠ [] → look (foldR agg bd L).1 k = some (allC agg bd (valsK k L)).1 := by
    intro L k e1 h
    rw [e1, if_neg h]
  by_cases h0 : (foldR agg bd (L1 ++ L2)).2 = 0
  · have t := (fold_told agg bd hb (L1 ++ L2)).1 h0
    have e1 : (gat (joinC agg bd) ((foldR agg bd L1).1 ++ (foldR agg bd L2).1)).2 = 0 := g2.2 fun k a b ha hb' => by
      obtain ⟨n1, rfl⟩ := lk (t1 k).1 ha
      obtain ⟨n2, rfl⟩ := lk (t2 k).1 hb'
      rw [(hj k n1 n2).1]
      exact (t k).2 (by rw [vals_app]; simp [n1])
    have e2 : (gat (joinC agg bd) ((foldR agg bd L2).1 ++ (foldR agg bd L1).1)).2 = 0 := g4.2 fun k a b ha hb' => by
      obtain ⟨n1, rfl⟩ := lk (t2 k).1 ha
      obtain ⟨n2, rfl⟩ := lk (t1 k).1 hb'
      rw [(hj k n2 n1).2]
      exact (t k).2 (by rw [vals_app]; simp [n1])
    have hm : ∀ k, (meet (joinC agg bd) (look (foldR agg bd L1).1 k) (look (foldR agg bd L2).1 k) = look (foldR agg bd (L1 ++ L2)).1 k) ∧ (meet (joinC agg bd) (look (foldR agg bd L2).1 k) (look (foldR agg bd L1).1 k) = look (foldR agg bd (L1 ++ L2)).1 k) := by
      intro k
      rw [(t k).1, (t1 k).1, (t2 k).1, vals_app]
      by_cases n1 : valsK k L1 = [] <;> by_cases n2 : valsK k L2 = []
      · simp [n1, n2, meet]
      · simp [n1, n2, meet]
      · rw [n2, List.append_nil, if_neg n1, if_pos rfl]
        exact ⟨rfl, rfl⟩
      · have hz := (t k).2 (by rw [vals_app]; simp [n1])
        obtain ⟨j1, j2⟩ := hj k n1 n2
        rw [vals_app] at hz j1 j2
        simp only [if_neg n1, if_neg n2, meet, both]
        rw [j1, j2, if_neg (show ¬ (valsK k L1 ++ valsK k L2 = []) by simp [n1])]
        simp [hz]
    rw [fin_ok e1, fin_ok e2, fin_ok h0]
    refine ⟨Prod.ext (riseK_ext (rise_gat _ _) (fold_rise _ _ _) fun k => ?_) (by rw [e1, h0]), Prod.ext (riseK_ext (rise_gat _ _) (fold_rise _ _ _) fun k => ?_) (by rw [e2, h0])⟩
    · rw [g1, (hm k).1]
    · rw [g3, (hm k).2]
  · obtain ⟨k, hk, he⟩ := (fold_told agg bd hb (L1 ++ L2)).2 h0
    have n1 : valsK k L1 ≠ [] := fun n => by
      rw [vals_app, n, List.nil_append] at hk he
      exact he ((t2 k).2 hk)
    have n2 : valsK k L2 ≠ [] := fun n => by
      rw [vals_app, n, List.append_nil] at hk he
      exact he ((t1 k).2 hk)
    obtain ⟨j1, j2⟩ := hj k n1 n2
    have e1 : (gat (joinC agg bd) ((foldR agg bd L1).1 ++ (foldR agg bd L2).1)).2 ≠ 0 := fun e => by
      have := g2.1 e k _ _ (kl (t1 k).1 n1) (kl (t2 k).1 n2)
      rw [j1] at this
      exact he this
    have e2 : (gat (joinC agg bd) ((foldR agg bd L2).1 ++ (foldR agg bd L1).1)).2 ≠ 0 := fun e => by
      have := g4.1 e k _ _ (kl (t2 k).1 n2) (kl (t1 k).1 n1)
      rw [j2] at this
      exact he this
    rw [fin_bad e1, fin_bad e2, fin_bad h0]
    rw [(gat_err agg bd _).resolve_left e1, (gat_err agg bd _).resolve_left e2, show (foldR agg bd (L1 ++ L2)).2 = 11 from (gat_err agg bd (ones agg (L1 ++ L2))).resolve_left h0]
    exact ⟨rfl, rfl⟩
end Go.Proofs.YtejgcflcckjlpaaDoor
