/- A slice of records: what its cells hold. -/
import Derived.Test.YtejgcflcckjlpaaGreatDoorRows
import Derived.Test.YtejgcflcckjlpaaGreatDoorBC1M
import Derived.Test.YtejgcflcckjlpaaGreatDoorBC6
import Derived.WalkKit
import Derived.ProofKit
import Derived.OpenShut
import Derived.ShutString
import Derived.ChangeOld
import Derived.Below
import Derived.Deep.Slices
import Derived.OwnWalk
namespace Go.Proofs.YtejgcflcckjlpaaGreatDoor
open Go.RowKit
set_option linter.unusedVariables false
set_option maxRecDepth 100000

theorem Tryz.cellsRec : Tryz.prog.cellsOf 79 = 3 := by kernel_rfl
theorem Tryz.cellsKey : Tryz.prog.cellsOf 42 = 2 := by kernel_rfl
theorem Tryz.bytesRec : Tryz.prog.bytesOf 79 = 32 := by kernel_rfl
theorem Tryz.cellsRecs : Tryz.prog.cellsOf 23 = 1 := by kernel_rfl

/-- Numbers that an int64 holds, a text that may be. -/
structure Wr (x : Rc) : Prop where
  k1 : -9223372036854775808 ≤ x.1.1
  k2 : x.1.1 ≤ 9223372036854775807
  txt : x.1.2.size ≤ 140737488351232
  v1 : -9223372036854775808 ≤ x.2
  v2 : x.2 ≤ 9223372036854775807
def Wf (l : List Rc) : Prop := ∀ x ∈ l, Wr x

/-- From (b, off) on the records of l lie, one behind the other. -/
def RecsAt (w : World) (b off : Nat) (l : List Rc) : Prop :=
  ∀ i x, l[i]? = some x → w.cell? ⟨b, off + i * 3, none⟩ = some (.int .i64 x.1.1) ∧ w.cell? ⟨b, off + i * 3 + 1, none⟩ = some (.string x.1.2) ∧ w.cell? ⟨b, off + i * 3 + 2, none⟩ = some (.int .i64 x.2)

/-- The slice v holds the records l. -/
def RS (w : World) (v : Value) (l : List Rc) : Prop :=
  ∃ a cap, v = .slice a l.length cap ∧ (l = [] ∨ ∃ b off, a = some ⟨b, off, none⟩ ∧ b < w.heap.size ∧ RecsAt w b off l)

theorem RecsAt.below {w w' : World} {b off B : Nat} {l : List Rc} (h : RecsAt w b off l) (hb : Below B w w') (hlt : b < B) : RecsAt w' b off l := fun i x hx =>
  ⟨(hb.cell (p := ⟨b, off + i * 3, none⟩) hlt).trans (h i x hx).1, (hb.cell (p := ⟨b, off + i * 3 + 1, none⟩) hlt).trans (h i x hx).2.1, (hb.cell (p := ⟨b, off + i * 3 + 2, none⟩) hlt).trans (h i x hx).2.2⟩
theorem RS.below {w w' : World} {v : Value} {l : List Rc} (h : RS w v l) (hb : Below w.heap.size w w') : RS w' v l := by
  obtain ⟨a, cap, rfl, h⟩ := h
  refine ⟨a, cap, rfl, ?_⟩
  rcases h with h | ⟨b, off, rfl, hlt, h⟩
  · exact .inl h
  · exact .inr ⟨b, off, rfl, Nat.lt_of_lt_of_le hlt hb.size, h.below hb hlt⟩
theorem RS.at {w : World} {b off n cap : Nat} {l : List Rc} (h : RS w (.slice (some ⟨b, off, none⟩) n cap) l) : RecsAt w b off l := by
  obtain ⟨a, cap', e, h⟩ := h
  rcases h with rfl | ⟨b', off', rfl, _, hat⟩
  · intro i y hy; simp at hy
  · injection e with e1 e2 e3
    injection e1 with e1
    injection e1 with e1 e4
    subst e1 e4
    exact hat
theorem RS.shape {w : World} {v : Value} {l : List Rc} (h : RS w v l) : (∃ a cap, v = .slice a 0 cap ∧ l = []) ∨ ∃ b off cap, v = .slice (some ⟨b, off, none⟩) l.length cap ∧ b < w.heap.size ∧ RecsAt w b off l := by
  obtain ⟨a, cap, rfl, h⟩ := h
  rcases h with rfl | ⟨b, off, rfl, hb, hat⟩
  · exact .inl ⟨a, cap, rfl, rfl⟩
  · exact .inr ⟨b, off, cap, rfl, hb, hat⟩

/-- The cells of records, one behind the other. -/
abbrev flatR (l : List Rc) : List Value := l.flatMap encR
theorem flat_len (l : List Rc) : (flatR l).length = l.length * 3 := by
  induction l with
  | nil => rfl
  | cons a l ih => simp [flatR, encR] at ih ⊢; omega
theorem flat_get : ∀ (l : List Rc) (i : Nat) (x : Rc), l[i]? = some x → (flatR l)[i * 3]? = some (.int .i64 x.1.1) ∧ (flatR l)[i * 3 + 1]? = some (.string x.1.2) ∧ (flatR l)[i * 3 + 2]? = some (.int .i64 x.2)
  | [], i, x, h => by simp at h
  | a :: l, 0, x, h => by simp at h; subst h; simp [flatR, encR]
  | a :: l, i + 1, x, h => by
    simp at h
    have := flat_get l i x h
    simp only [flatR, List.flatMap_cons, encR] at this ⊢
    have e : (i + 1) * 3 = i * 3 + 1 + 1 + 1 := by omega
    rw [e]
    simpa using this
theorem flat_app (l m : List Rc) : flatR (l ++ m) = flatR l ++ flatR m := by simp [flatR]
theorem flat_one (x : Rc) : flatR [x] = [.int .i64 x.1.1, .string x.1.2, .int .i64 x.2] := rfl
theorem recsAt_of_block {w : World} {g : Nat} {cur : Array Value} {e : TypeId} {l : List Rc} (hb : w.heap[g]? = some (.cells cur e (0, 0))) (ht : cur.toList.take (l.length * 3) = flatR l) : RecsAt w g 0 l := by
  intro i x hx
  have hi : i < l.length := (List.getElem?_eq_some_iff.1 hx).1
  obtain ⟨h0, h1, h2⟩ := flat_get l i x hx
  rw [← ht, List.getElem?_take_of_lt (by omega)] at h0 h1 h2
  refine ⟨?_, ?_, ?_⟩
  · simp only [World.cell?, hb, Nat.zero_add]
    simpa using h0
  · simp only [World.cell?, hb, Nat.zero_add]
    simpa using h1
  · simp only [World.cell?, hb, Nat.zero_add]
    simpa using h2
/-- v owns the records l, in a block from base on. -/
abbrev OwnR (w : World) (base : Nat) (v : Value) (l : List Rc) : Prop := w.ownsRow base 79 3 v l.length (flatR l)
/-- A slice of the call's own holds what it owns. -/
theorem RS.own {w : World} {base : Nat} {v : Value} {l : List Rc} (h : OwnR w base v l) : RS w v l := by
  rcases h.2 with ⟨rfl, h0⟩ | ⟨g, cap, cur, rfl, _, hb, _, _, _, ht⟩
  · have : l = [] := List.length_eq_zero_iff.1 h0
    subst this
    exact ⟨none, 0, rfl, .inl rfl⟩
  · exact ⟨_, cap, rfl, .inr ⟨g, 0, rfl, (Array.getElem?_eq_some_iff.1 hb).1, recsAt_of_block hb ht⟩⟩
theorem OwnR.below {w w' : World} {base : Nat} {v : Value} {l : List Rc} (h : OwnR w base v l) (hb : Below w.heap.size w w') : OwnR w' base v l := by
  refine ⟨h.1, ?_⟩
  rcases h.2 with ⟨h1, h2⟩ | ⟨g, cap, cur, h1, h2, h3, h4⟩
  · exact .inl ⟨h1, h2⟩
  · exact .inr ⟨g, cap, cur, h1, h2, by rw [hb.block g (Array.getElem?_eq_some_iff.1 h3).1]; exact h3, h4⟩
theorem OwnR.snoc {w : World} {base n : Nat} {v : Value} {l : List Rc} {x : Rc} (h : w.ownsRow base 79 3 v (n + 1) (flatR l ++ [.int .i64 x.1.1, .string x.1.2, .int .i64 x.2])) (hn : n = l.length) : OwnR w base v (l ++ [x]) := by
  subst hn
  have : flatR (l ++ [x]) = flatR l ++ [.int .i64 x.1.1, .string x.1.2, .int .i64 x.2] := by rw [flat_app, flat_one]
  unfold OwnR
  rw [this, List.length_append]
  exact h

theorem Tryz.infoRec : (Tryz.prog.info? 79).map (fun i => (i.zero, i.size, i.bytes)) = some (some (.agg #[.int .i64 0, .string ⟨#[]⟩, .int .i64 0]), 3, 32) := by kernel_rfl
theorem rec_cells (a : Int) (b : ByteArray) (v : Int) : ∀ u ∈ [Value.int .i64 a, .string b, .int .i64 v], u.oneCell' = true := by
  intro u hu
  simp only [List.mem_cons, List.not_mem_nil, or_false] at hu
  rcases hu with rfl | rfl | rfl <;> rfl
end Go.Proofs.YtejgcflcckjlpaaGreatDoor
