/- The page's own Count. -/
import Derived.Test.YtejgcflcckjlpaaGreatDoorBC50
import Derived.Test.YtejgcflcckjlpaaGreatDoorBC11
namespace Go.Proofs.YtejgcflcckjlpaaGreatDoor
open Go.RowKit Go.Deep
set_option linter.unusedVariables false
set_option maxRecDepth 100000

theorem OwnN.base {w : World} {base base' : Nat} {v : Value} {l : List Int} (h : OwnN w base v l) (hb : base' ≤ base) : OwnN w base' v l := by
  refine ⟨h.1, ?_⟩
  rcases h.2 with ⟨h1, h2⟩ | ⟨g, cap, cur, h1, h2, h3⟩
  · exact .inl ⟨h1, h2⟩
  · exact .inr ⟨g, cap, cur, h1, Nat.le_trans hb h2, h3⟩
/-- A row of keys and a row of numbers are two. -/
theorem rows_apart {w : World} {base base' : Nat} {v u : Value} {ks : List Ky} {ms : List Int} (h : OwnK w base v ks) (h' : OwnN w base' u ms) : v.ownBlock = none ∨ v.ownBlock ≠ u.ownBlock := by
  rcases h.2 with ⟨rfl, _⟩ | ⟨g, cap, cur, rfl, _, hb, _⟩
  · exact .inl rfl
  right
  rcases h'.2 with ⟨rfl, _⟩ | ⟨g', cap', cur', rfl, _, hb', _⟩
  · simp [Value.ownBlock]
  · intro e
    have e' : g = g' := by simpa [Value.ownBlock] using e
    subst e'
    rw [hb] at hb'
    injection hb' with hb'
    injection hb' with _ hb' _
    revert hb'
    decide
theorem apart_symm {a b : Option Nat} (h : a = none ∨ a ≠ b) : b = none ∨ b ≠ a := by
  rcases h with h | h
  · subst h; cases b
    · exact .inl rfl
    · exact .inr (by simp)
  · exact .inr (Ne.symm h)
/-- The last number is written anew. -/
theorem OwnN.set {w : World} {base g cap : Nat} {ms : List Int} {m x : Int} (h : OwnN w base (.slice (some ⟨g, 0, none⟩) (ms.length + 1) cap) (ms ++ [m])) :
    OwnN (w.setCell ⟨g, ms.length, none⟩ (.int .i64 x)) base (.slice (some ⟨g, 0, none⟩) (ms.length + 1) cap) (ms ++ [x]) := by
  rcases h.2 with ⟨h0, _⟩ | ⟨g', cap', cur, hv, hg, hb, h1, h2, h3, h4⟩
  · cases h0
  obtain ⟨rfl, rfl⟩ : g = g' ∧ cap = cap' := by simpa using hv
  refine ⟨by simp, .inr ⟨g, cap, cur.setIfInBounds ms.length (.int .i64 x), by simp, hg, ?_, by simpa using h1, h2, by simpa using h3, ?_⟩⟩
  · simp only [World.setCell, Array.getElem?_modify, hb]
    simp
  · simp only [List.length_append, List.length_cons, List.length_nil, Nat.mul_one] at h1 h3 h4 ⊢
    rw [Array.toList_setIfInBounds, List.take_set, h4, List.map_append, List.map_append]
    simp
theorem OwnN.last {w : World} {base g cap : Nat} {ms : List Int} {m : Int} (h : OwnN w base (.slice (some ⟨g, 0, none⟩) (ms.length + 1) cap) (ms ++ [m])) :
    w.cell? ⟨g, ms.length, none⟩ = some (.int .i64 m) ∧ w.frozen? ⟨g, ms.length, none⟩ = false := by
  rcases h.2 with ⟨h0, _⟩ | ⟨g', cap', cur, hv, hg, hb, h1, h2, h3, h4⟩
  · cases h0
  obtain ⟨rfl, rfl⟩ : g = g' ∧ cap = cap' := by simpa using hv
  have h0 : ((ms ++ [m]).map (Value.int .i64))[ms.length]? = some (.int .i64 m) := by simp
  simp only [List.length_append, List.length_cons, List.length_nil, Nat.mul_one] at h4
  rw [← h4, List.getElem?_take_of_lt (by simp)] at h0
  exact ⟨by simp only [World.cell?, hb]; simpa using h0, by simp [World.frozen?, hb]⟩

theorem run_new {s : List Ky} (hs : s.Pairwise (fun x y => ltK y x = false)) {p : Nat} {y z : Ky} (hz : s[p]? = some z) (hy : s[p + 1]? = some y) (hne : y ≠ z) : ∀ x ∈ s.take (p + 1), ltK x y = true := by
  have e1 : s.take (p + 1) = s.take p ++ [z] := by rw [List.take_add_one, hz]; rfl
  have e2 : s.take (p + 1 + 1) = s.take p ++ [z] ++ [y] := by rw [List.take_add_one, hy, e1]; rfl
  have h2 := hs
  rw [← List.take_append_drop (p + 1 + 1) s, List.pairwise_append, e2, List.pairwise_append, List.pairwise_append] at h2
  obtain ⟨⟨⟨_, _, h3⟩, _, h4⟩, _⟩ := h2
  have hzy : ltK z y = true := by
    have h5 := h4 z (by simp) y (by simp)
    cases h6 : ltK z y
    · exact absurd (ltK_total h5 h6) hne
    · rfl
  rw [e1]
  intro x hx
  rcases List.mem_append.1 hx with hx | hx
  · exact le_ltK (h3 x hx z (by simp)) hzy
  · rw [List.mem_singleton] at hx; subst hx; exact hzy
/-- How the counts stand behind k keys of s. -/
def Runs (s : List Ky) (k : Nat) (ks : List Ky) (ms : List Int) : Prop :=
  Cnt (s.take k) ks ms ∧ ∀ p z, k = p + 1 → s[p]? = some z → ∃ ks' ms' m, ks = ks' ++ [z] ∧ ms = ms' ++ [m]
theorem Runs.start (s : List Ky) : Runs s 0 [] [] := ⟨Cnt.nil, fun p z h => by omega⟩
theorem Runs.new {s : List Ky} {k : Nat} {ks : List Ky} {ms : List Int} {y : Ky} (h : Runs s k ks ms) (hy : s[k]? = some y) (hx : ∀ x ∈ s.take k, ltK x y = true) : Runs s (k + 1) (ks ++ [y]) (ms ++ [1]) := by
  refine ⟨?_, fun p z hp hz => ?_⟩
  · have e : s.take (k + 1) = s.take k ++ [y] := by rw [List.take_add_one, hy]; rfl
    rw [e]
    exact h.1.new hx
  · obtain rfl : k = p := by omega
    rw [hy] at hz
    injection hz with hz
    subst hz
    exact ⟨ks, ms, 1, rfl, rfl⟩
theorem Runs.more {s : List Ky} {p : Nat} {ks : List Ky} {ms : List Int} {m : Int} {y : Ky} (h : Runs s (p + 1) (ks ++ [y]) (ms ++ [m])) (hy : s[p + 1]? = some y) : Runs s (p + 1 + 1) (ks ++ [y]) (ms ++ [m + 1]) := by
  refine ⟨?_, fun q z hp hz => ?_⟩
  · have e : s.take (p + 1 + 1) = s.take (p + 1) ++ [y] := by rw [List.take_add_one, hy]; rfl
    rw [e]
    exact h.1.more
  · obtain rfl : q = p + 1 := by omega
    rw [hy] at hz
    injection hz with hz
    subst hz
    exact ⟨ks, ms, m + 1, rfl, rfl⟩
theorem Runs.bound {s : List Ky} {k : Nat} {ks : List Ky} {ms : List Int} {m : Int} (h : Runs s k ks (ms ++ [m])) : 0 ≤ m ∧ m ≤ s.length := by
  have e := h.1.2.2
  have hm : m ∈ ks.map fun x => (cnt (s.take k) x : Int) := by rw [← e]; simp
  obtain ⟨x, _, rfl⟩ := List.mem_map.1 hm
  have := cnt_le (s.take k) x
  simp at this ⊢
  omega
theorem Runs.len {s : List Ky} {k : Nat} {ks : List Ky} {ms : List Int} (h : Runs s k ks ms) : ks.length ≤ s.length ∧ ms.length = ks.length := by
  have h1 := h.1.le
  have h2 := h.1.length
  simp at h1
  exact ⟨by omega, h2⟩

/-- What Count leaves. -/
def CountPost (l : List Ky) (w : World) (e : Ending) (w' : World) : Prop :=
  ∃ v1 v2 ks ms, e = .returned (.tuple #[v1, v2]) ∧ Cnt l ks ms ∧ OwnK w' w.heap.size v1 ks ∧ OwnN w' w.heap.size v2 ms ∧ Below w.heap.size w w'

end Go.Proofs.YtejgcflcckjlpaaGreatDoor
