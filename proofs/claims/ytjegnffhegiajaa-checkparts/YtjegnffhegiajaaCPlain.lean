/- What ops take and leave. No program in this text. -/
import Derived.Test.YtjegnffhegiajaaLCount
namespace Go.Proofs.Ytjegnffhegiajaa
set_option linter.unusedVariables false
set_option maxRecDepth 100000

/-- How many an op takes, and leaves. -/
def tk (k : Int) : Int := if k ≤ 4 then 0 else if k ≤ 17 then 2 else if k ≤ 25 then 1 else if k ≤ 26 then 2 else if k ≤ 29 then 1 else 2
def lv (k : Int) : Int := if k ≤ 24 then 1 else if k ≤ 26 then 2 else 0
theorem tk_bd (k : Int) : 0 ≤ tk k ∧ tk k ≤ 2 := by unfold tk; split <;> (try split) <;> (try split) <;> (try split) <;> (try split) <;> (try split) <;> omega
theorem lv_bd (k : Int) : 0 ≤ lv k ∧ lv k ≤ 2 := by unfold lv; split <;> (try split) <;> omega
/-- From h there, of which those from fl on may be taken, where there were m at most: how many are left, and the most. -/
def nd : Fo → Int → Int → Int → Option (Int × Int)
  | .nil, h, _, m => some (h, m)
  | .cons k _ b r, h, fl, m =>
    if h - tk k < fl then none else if 16 < h - tk k + lv k then none else
    match nd b (h - tk k + lv k) (h - tk k + lv k) (max m (h - tk k + lv k)) with
    | none => none
    | some (l, m2) => if l = h - tk k + lv k then nd r l fl m2 else none
/-- One op that may be, the block's done. -/
theorem nd_cons {k n : Int} {b r : Fo} {h fl m : Int} {x : Int × Int} (e : nd (.cons k n b r) h fl m = some x) : fl ≤ h - tk k ∧ h - tk k + lv k ≤ 16 ∧ ∃ m2, nd b (h - tk k + lv k) (h - tk k + lv k) (max m (h - tk k + lv k)) = some (h - tk k + lv k, m2) ∧ nd r (h - tk k + lv k) fl m2 = some x := by
  rw [nd] at e
  split at e
  · cases e
  split at e
  · cases e
  split at e
  · cases e
  · rename_i l m2 hb
    split at e
    · rename_i hl
      subst hl
      exact ⟨by omega, by omega, m2, hb, e⟩
    · cases e
theorem nd_mk {k n : Int} {b r : Fo} {h fl m m2 : Int} (h1 : fl ≤ h - tk k) (h2 : h - tk k + lv k ≤ 16) (h3 : nd b (h - tk k + lv k) (h - tk k + lv k) (max m (h - tk k + lv k)) = some (h - tk k + lv k, m2)) : nd (.cons k n b r) h fl m = nd r (h - tk k + lv k) fl m2 := by
  rw [nd, if_neg (by omega), if_neg (by omega), h3]
  simp
theorem nd_no1 {k n : Int} {b r : Fo} {h fl m : Int} (h1 : h - tk k < fl) : nd (.cons k n b r) h fl m = none := by rw [nd, if_pos h1]
theorem nd_no2 {k n : Int} {b r : Fo} {h fl m : Int} (h2 : 16 < h - tk k + lv k) : nd (.cons k n b r) h fl m = none := by
  rw [nd, if_pos h2]
  split <;> rfl
theorem nd_no3 {k n : Int} {b r : Fo} {h fl m : Int} (h3 : ∀ m2, nd b (h - tk k + lv k) (h - tk k + lv k) (max m (h - tk k + lv k)) ≠ some (h - tk k + lv k, m2)) : nd (.cons k n b r) h fl m = none := by
  cases e : nd (.cons k n b r) h fl m with
  | none => rfl
  | some x => obtain ⟨_, _, m2, h4, _⟩ := nd_cons e; exact absurd h4 (h3 m2)
/-- What comes of it lies within bounds. -/
theorem nd_bd : ∀ (f : Fo) (h fl m l p : Int), nd f h fl m = some (l, p) → fl ≤ h → h ≤ m → m ≤ 16 → fl ≤ l ∧ l ≤ p ∧ m ≤ p ∧ p ≤ 16 := by
  intro f
  induction f with
  | nil => intro h fl m l p e h1 h2 h3; simp only [nd, Option.some.injEq, Prod.mk.injEq] at e; omega
  | cons k n b r ihb ihr =>
    intro h fl m l p e h1 h2 h3
    obtain ⟨a1, a2, m2, a3, a4⟩ := nd_cons e
    have hl := lv_bd k
    have b1 := ihb _ _ _ _ _ a3 (by omega) (by omega) (by omega)
    have b2 := ihr _ _ _ _ _ a4 (by omega) (by omega) (by omega)
    omega
theorem nd_app : ∀ (f g : Fo) (h fl m : Int), nd (f.app g) h fl m = (nd f h fl m).bind fun x => nd g x.1 fl x.2 := by
  intro f
  induction f with
  | nil => intro g h fl m; rfl
  | cons k n b r _ ihr =>
    intro g h fl m
    show nd (.cons k n b (r.app g)) h fl m = _
    cases e : nd (.cons k n b r) h fl m with
    | some x =>
      obtain ⟨a1, a2, m2, a3, a4⟩ := nd_cons e
      rw [nd_mk a1 a2 a3, ihr, a4]
    | none =>
      by_cases h1 : h - tk k < fl
      · exact nd_no1 h1
      by_cases h2 : 16 < h - tk k + lv k
      · exact nd_no2 h2
      by_cases h3 : ∃ m2, nd b (h - tk k + lv k) (h - tk k + lv k) (max m (h - tk k + lv k)) = some (h - tk k + lv k, m2)
      · obtain ⟨m2, h3⟩ := h3
        rw [nd_mk (by omega) (by omega) h3] at e ⊢
        rw [ihr, e]
      · rw [nd_no3 (fun m2 hm => h3 ⟨m2, hm⟩)]
        rfl
/-- With s more there ahead of it. -/
theorem nd_shift : ∀ (f : Fo) (h fl m l p : Int), nd f h fl m = some (l, p) → fl ≤ h → h ≤ m → m ≤ 16 → ∀ (s fl2 M : Int), 0 ≤ s → fl2 ≤ fl + s → s + m ≤ M → s + m ≤ 16 →
    (s + p ≤ 16 → nd f (h + s) fl2 M = some (l + s, max M (s + p))) ∧ (16 < s + p → nd f (h + s) fl2 M = none) := by
  intro f
  induction f with
  | nil =>
    intro h fl m l p e h1 h2 h3 s fl2 M hs hf hM hm
    simp only [nd, Option.some.injEq, Prod.mk.injEq] at e ⊢
    obtain ⟨rfl, rfl⟩ := e
    exact ⟨fun _ => ⟨rfl, by omega⟩, fun _ => by omega⟩
  | cons k n b r ihb ihr =>
    intro h fl m l p e h1 h2 h3 s fl2 M hs hf hM hm
    obtain ⟨a1, a2, m2, a3, a4⟩ := nd_cons e
    have hl := lv_bd k
    have b1 := nd_bd _ _ _ _ _ _ a3 (by omega) (by omega) (by omega)
    have b2 := nd_bd _ _ _ _ _ _ a4 (by omega) (by omega) (by omega)
    have e1 : h + s - tk k + lv k = h - tk k + lv k + s := by omega
    by_cases hx : 16 < h + s - tk k + lv k
    · exact ⟨fun _ => by omega, fun _ => nd_no2 hx⟩
    have c1 := ihb _ _ _ _ _ a3 (by omega) (by omega) (by omega) s (h - tk k + lv k + s) (max M (h - tk k + lv k + s)) hs (by omega) (by omega) (by omega)
    rw [← e1] at c1
    by_cases hy : s + m2 ≤ 16
    · rw [nd_mk (by omega) (by omega) (c1.1 hy), e1]
      have c2 := ihr _ _ _ _ _ a4 (by omega) (by omega) (by omega) s fl2 (max (max M (h - tk k + lv k + s)) (s + m2)) hs hf (by omega) (by omega)
      rw [show max M (s + p) = max (max (max M (h - tk k + lv k + s)) (s + m2)) (s + p) by omega]
      exact c2
    · refine ⟨fun _ => by omega, fun _ => nd_no3 fun q hq => ?_⟩
      rw [c1.2 (by omega)] at hq
      cases hq
/-- What Need tells of ops that may be. -/
def need0 (f : Fo) : Option (Int × Int) := nd f 0 0 0
theorem need0_bd {f : Fo} {l p : Int} (h : need0 f = some (l, p)) : 0 ≤ l ∧ l ≤ p ∧ p ≤ 16 := by
  have := nd_bd f 0 0 0 l p h (by omega) (by omega) (by omega)
  omega
/-- Two programs, one behind the other. -/
theorem need0_app {f g : Fo} {a m b n : Int} (h1 : need0 f = some (a, m)) (h2 : need0 g = some (b, n)) : (a + n ≤ 16 → need0 (f.app g) = some (a + b, max m (a + n))) ∧ (16 < a + n → need0 (f.app g) = none) := by
  have k1 := need0_bd h1
  have k2 := nd_shift g 0 0 0 b n h2 (by omega) (by omega) (by omega) a 0 m (by omega) (by omega) (by omega) (by omega)
  unfold need0 at h1 ⊢
  rw [nd_app, h1]
  simp only [Option.bind_some, Int.zero_add] at k2 ⊢
  rw [Int.add_comm a b]
  exact k2
end Go.Proofs.Ytjegnffhegiajaa
