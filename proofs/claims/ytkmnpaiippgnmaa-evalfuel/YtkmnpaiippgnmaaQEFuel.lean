/- With more fuel, with less. No program in this text but what Run tells. -/
import Derived.Test.YtkmnpaiippgnmaaQ6
namespace Go.Proofs.Ytkmnpaiippgnmaa
open Go.RowKit
set_option linter.unusedVariables false
set_option maxRecDepth 100000

/-- What it took is asked alone: with as much or more it is the same, with less the fuel is gone. -/
def Fu (g : St → Re) : Prop := ∀ s s', g s = .ok s' → s'.fu ≤ s.fu ∧ ∀ p, (s.fu - s'.fu ≤ p → g ⟨p, s.st, s.out⟩ = .ok ⟨p - (s.fu - s'.fu), s'.st, s'.out⟩) ∧ (p < s.fu - s'.fu → g ⟨p, s.st, s.out⟩ = .err 10)
def seqR (g1 g2 : St → Re) (s : St) : Re := match g1 s with
  | .err c => .err c
  | .ok s' => g2 s'
theorem seqR_ok {g1 g2 : St → Re} {s s' : St} (h : g1 s = .ok s') : seqR g1 g2 s = g2 s' := by unfold seqR; rw [h]
theorem seqR_err {g1 g2 : St → Re} {s : St} {c : Int} (h : g1 s = .err c) : seqR g1 g2 s = .err c := by unfold seqR; rw [h]
theorem Fu.seq {g1 g2 : St → Re} (h1 : Fu g1) (h2 : Fu g2) : Fu (seqR g1 g2) := by
  intro s s2 e
  cases hg : g1 s with
  | err c => rw [seqR_err hg] at e; cases e
  | ok s1 =>
    rw [seqR_ok hg] at e
    have a := h1 _ _ hg
    have b := h2 _ _ e
    refine ⟨by omega, fun p => ⟨fun hp => ?_, fun hp => ?_⟩⟩
    · have e1 := (a.2 p).1 (by omega)
      have e2 := (b.2 (p - (s.fu - s1.fu))).1 (by omega)
      rw [seqR_ok e1, e2]
      rw [show p - (s.fu - s1.fu) - (s1.fu - s2.fu) = p - (s.fu - s2.fu) by omega]
    · by_cases hp1 : p < s.fu - s1.fu
      · exact seqR_err ((a.2 p).2 hp1)
      · have e1 := (a.2 p).1 (by omega)
        rw [seqR_ok e1]
        exact (b.2 (p - (s.fu - s1.fu))).2 (by omega)
theorem Fu.id : Fu Re.ok := by
  intro s s' e
  injection e with e
  subst e
  exact ⟨Nat.le_refl _, fun p => ⟨fun _ => by simp, fun hp => by omega⟩⟩
/-- What looks at no fuel. -/
theorem Fu.plain {g : St → Re} (h : ∀ s s', g s = .ok s' → s'.fu = s.fu ∧ ∀ p, g ⟨p, s.st, s.out⟩ = .ok ⟨p, s'.st, s'.out⟩) : Fu g := by
  intro s s' e
  obtain ⟨h1, h2⟩ := h s s' e
  exact ⟨by omega, fun p => ⟨fun _ => by rw [h2 p]; simp [h1], fun hp => by omega⟩⟩
theorem Fu.rep {g : St → Re} (h : Fu g) : ∀ n, Fu (rep g n)
  | 0 => Fu.id
  | n + 1 => by
    have e : Go.Proofs.Ytkmnpaiippgnmaa.rep g (n + 1) = seqR g (Go.Proofs.Ytkmnpaiippgnmaa.rep g n) := by
      funext s
      cases hg : g s with
      | err c => rw [rep_err hg, seqR_err hg]
      | ok s' => rw [rep_ok hg, seqR_ok hg]
    rw [e]
    exact h.seq (Fu.rep h n)
theorem Fu.stp (x : Rc) (k n : Int) {g : St → Re} (hg : Fu g) : Fu (stp x k n g) := by
  unfold Go.Proofs.Ytkmnpaiippgnmaa.stp
  intro s s' e
  have pl : ∀ (st : List Int) (out : List Rc), (Re.ok ⟨s.fu, st, out⟩ : Re) = .ok s' → s'.fu ≤ s.fu ∧ ∀ p, (s.fu - s'.fu ≤ p → (Re.ok ⟨p, st, out⟩ : Re) = .ok ⟨p - (s.fu - s'.fu), s'.st, s'.out⟩) ∧ (p < s.fu - s'.fu → (Re.ok ⟨p, st, out⟩ : Re) = .err 10) := by
    intro st out e
    injection e with e
    subst e
    exact ⟨Nat.le_refl _, fun p => ⟨fun _ => by simp, fun hp => by simp at hp⟩⟩
  simp only at e ⊢
  split at e
  · rename_i h; simp only [if_pos h]; exact pl _ _ e
  rename_i h1; simp only [if_neg h1]
  split at e
  · rename_i h; simp only [if_pos h]; exact pl _ _ e
  rename_i h2; simp only [if_neg h2]
  split at e
  · rename_i h; simp only [if_pos h]; exact pl _ _ e
  rename_i h3; simp only [if_neg h3]
  split at e
  · rename_i h; simp only [if_pos h]; exact pl _ _ e
  rename_i h4; simp only [if_neg h4]
  split at e
  · rename_i h; simp only [if_pos h]; exact pl _ _ e
  rename_i h5; simp only [if_neg h5]
  split at e
  · rename_i h; simp only [if_pos h]; exact pl _ _ e
  rename_i h6; simp only [if_neg h6]
  split at e
  · rename_i h; simp only [if_pos h]
    have := hg.rep (often k (hd s.st)) _ _ e
    exact this
  rename_i h7; simp only [if_neg h7]
  split at e
  · cases e
  rename_i h8; simp only [if_neg h8]
  exact pl _ _ e
theorem Fu.pay : Fu (fun s => if s.fu = 0 then .err 10 else .ok ⟨s.fu - 1, s.st, s.out⟩) := by
  intro s s' e
  simp only at e
  split at e
  · cases e
  · rename_i h
    injection e with e
    subst e
    refine ⟨by simp, fun p => ⟨fun hp => ?_, fun hp => ?_⟩⟩
    · simp only at hp ⊢
      rw [if_neg (by omega), show p - 1 = p - (s.fu - (s.fu - 1)) by omega]
    · simp only at hp ⊢
      rw [if_pos (by omega)]
theorem Fu.ev (x : Rc) : ∀ f, Fu (ev x f) := by
  intro f
  induction f with
  | nil =>
    have e : Go.Proofs.Ytkmnpaiippgnmaa.ev x .nil = Re.ok := by funext s; rw [Go.Proofs.Ytkmnpaiippgnmaa.ev]
    rw [e]
    exact Fu.id
  | cons k n b r ihb ihr =>
    have e : Go.Proofs.Ytkmnpaiippgnmaa.ev x (.cons k n b r) = seqR (fun s => if s.fu = 0 then .err 10 else .ok ⟨s.fu - 1, s.st, s.out⟩) (seqR (Go.Proofs.Ytkmnpaiippgnmaa.stp x k n (Go.Proofs.Ytkmnpaiippgnmaa.ev x b)) (Go.Proofs.Ytkmnpaiippgnmaa.ev x r)) := by
      funext s
      by_cases hf : s.fu = 0
      · rw [ev_no hf, seqR_err (c := 10) (by simp [hf])]
      · rw [seqR_ok (s' := ⟨s.fu - 1, s.st, s.out⟩) (by simp [hf])]
        cases hs : Go.Proofs.Ytkmnpaiippgnmaa.stp x k n (Go.Proofs.Ytkmnpaiippgnmaa.ev x b) ⟨s.fu - 1, s.st, s.out⟩ with
        | err c => rw [ev_err hf hs, seqR_err hs]
        | ok s' => rw [ev_ok hf hs, seqR_ok hs]
    rw [e]
    exact Fu.pay.seq ((Fu.stp x k n ihb).seq ihr)
/-- Just what it took, and one less. -/
theorem run_took {f : Fo} {x : Rc} {n : Int} {l : List Rc} (h : runR f x 2000 = (0, n, l)) : (0 ≤ n ∧ n ≤ 2000) ∧ runR f x (2000 - n) = (0, 0, l) ∧ (0 < 2000 - n → runR f x (2000 - n - 1) = (10, 0, [])) := by
  by_cases h1 : cE f = 0
  · by_cases h2 : x.1.2.size ≤ 64 ∧ (0 : Int) ≤ 2000 ∧ (2000 : Int) ≤ 2000
    · cases he : ev x f ⟨2000, [], []⟩ with
      | err c =>
        have := runR_3 (q := 2000) h1 h2.1 (by omega) he
        rw [show ((2000 : Nat) : Int) = 2000 from rfl, h] at this
        injection this with this _
        exact absurd this.symm (err_code x f _ _ he)
      | ok s =>
        have hr := runR_4 (q := 2000) h1 h2.1 (by omega) he
        rw [show ((2000 : Nat) : Int) = 2000 from rfl, h] at hr
        injection hr with _ hr
        injection hr with hn hl
        obtain ⟨a1, a2⟩ := Fu.ev x f _ _ he
        simp only at a1 a2
        refine ⟨by omega, ?_, fun hp => ?_⟩
        · have e := (a2 (2000 - s.fu)).1 (by omega)
          have hr2 := runR_4 (q := 2000 - s.fu) h1 h2.1 (by omega) e
          rw [show ((2000 - s.fu : Nat) : Int) = 2000 - n by omega] at hr2
          rw [hr2, hl]
          simp
        · have e := (a2 (2000 - s.fu - 1)).2 (by omega)
          have hr2 := runR_3 (q := 2000 - s.fu - 1) h1 h2.1 (by omega) e
          rw [show ((2000 - s.fu - 1 : Nat) : Int) = 2000 - n - 1 by omega] at hr2
          exact hr2
    · rw [runR_2 h1 h2] at h; cases h
  · rw [runR_1 h1] at h
    injection h with h _
    exact absurd h h1
end Go.Proofs.Ytkmnpaiippgnmaa
