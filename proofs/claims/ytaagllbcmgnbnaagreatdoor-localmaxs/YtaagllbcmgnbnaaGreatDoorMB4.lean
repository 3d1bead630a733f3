/- Texts laid together: RRec, WRow, WMap. -/
import Derived.Test.YtaagllbcmgnbnaaGreatDoorRows
import Derived.Test.YtaagllbcmgnbnaaGreatDoorMB1
import Derived.Test.YtaagllbcmgnbnaaGreatDoorMB3
import Derived.WalkKit
import Derived.ProofKit
import Derived.OpenShut
import Derived.ShutString
import Derived.ChangeOld
import Derived.Below
import Derived.Deep.Slices
import Derived.OwnWalk
import Derived.Test.YtaagllbcmgnbnaaGreatDoorMB2
import Derived.Maps.Own
import Derived.Maps.OwnOps
import Derived.Maps.RangeWalk
import Derived.Maps.OwnSet
import Derived.Maps.Views
import Derived.DeepKeys4
/- A slice of records: what its cells hold. -/
namespace Go.Proofs.YtaagllbcmgnbnaaGreatDoor
open Go.RowKit
set_option linter.unusedVariables false
set_option maxRecDepth 100000

theorem Tryz.cellsRec : Tryz.prog.cellsOf 68 = 3 := by kernel_rfl
theorem Tryz.cellsKey : Tryz.prog.cellsOf 66 = 2 := by kernel_rfl
theorem Tryz.bytesRec : Tryz.prog.bytesOf 68 = 32 := by kernel_rfl
theorem Tryz.cellsRecs : Tryz.prog.cellsOf 23 = 1 := by kernel_rfl

/-- Numbers that an int64 holds, a text that may be. -/
structure Wr (x : Rc) : Prop where
  k1 : -9223372036854775808 ≤ x.1.1
  k2 : x.1.1 ≤ 9223372036854775807
  txt : x.1.2.size ≤ 140737488351232
  v1 : -9223372036854775808 ≤ x.2
  v2 : x.2 ≤ 9223372036854775807
def Wf (l : List Rc) : Prop := ∀ x ∈ l, Wr x

/-- From (b, off) on the records of l lie, one behind the other. -/
def RecsAt (w : World) (b off : Nat) (l : List Rc) : Prop :=
  ∀ i x, l[i]? = some x → w.cell? ⟨b, off + i * 3, none⟩ = some (.int .i64 x.1.1) ∧ w.cell? ⟨b, off + i * 3 + 1, none⟩ = some (.string x.1.2) ∧ w.cell? ⟨b, off + i * 3 + 2, none⟩ = some (.int .i64 x.2)

/-- The slice v holds the records l. -/
def RS (w : World) (v : Value) (l : List Rc) : Prop :=
  ∃ a cap, v = .slice a l.length cap ∧ (l = [] ∨ ∃ b off, a = some ⟨b, off, none⟩ ∧ b < w.heap.size ∧ RecsAt w b off l)

theorem RecsAt.below {w w' : World} {b off B : Nat} {l : List Rc} (h : RecsAt w b off l) (hb : Below B w w') (hlt : b < B) : RecsAt w' b off l := fun i x hx =>
  ⟨(hb.cell (p := ⟨b, off + i * 3, none⟩) hlt).trans (h i x hx).1, (hb.cell (p := ⟨b, off + i * 3 + 1, none⟩) hlt).trans (h i x hx).2.1, (hb.cell (p := ⟨b, off + i * 3 + 2, none⟩) hlt).trans (h i x hx).2.2⟩
theorem RS.below {w w' : World} {v : Value} {l : List Rc} (h : RS w v l) (hb : Below w.heap.size w w') : RS w' v l := by
  obtain ⟨a, cap, rfl, h⟩ := h
  refine ⟨a, cap, rfl, ?_⟩
  rcases h with h | ⟨b, off, rfl, hlt, h⟩
  · exact .inl h
  · exact .inr ⟨b, off, rfl, Nat.lt_of_lt_of_le hlt hb.size, h.below hb hlt⟩
theorem RS.at {w : World} {b off n cap : Nat} {l : List Rc} (h : RS w (.slice (some ⟨b, off, none⟩) n cap) l) : RecsAt w b off l := by
  obtain ⟨a, cap', e, h⟩ := h
  rcases h with rfl | ⟨b', off', rfl, _, hat⟩
  · intro i y hy; simp at hy
  · injection e with e1 e2 e3
    injection e1 with e1
    injection e1 with e1 e4
    subst e1 e4
    exact hat
theorem RS.shape {w : World} {v : Value} {l : List Rc} (h : RS w v l) : (∃ a cap, v = .slice a 0 cap ∧ l = []) ∨ ∃ b off cap, v = .slice (some ⟨b, off, none⟩) l.length cap ∧ b < w.heap.size ∧ RecsAt w b off l := by
  obtain ⟨a, cap, rfl, h⟩ := h
  rcases h with rfl | ⟨b, off, rfl, hb, hat⟩
  · exact .inl ⟨a, cap, rfl, rfl⟩
  · exact .inr ⟨b, off, cap, rfl, hb, hat⟩

/-- The cells of records, one behind the other. -/
abbrev flatR (l : List Rc) : List Value := l.flatMap encR
theorem flat_len (l : List Rc) : (flatR l).length = l.length * 3 := by
  induction l with
  | nil => rfl
  | cons a l ih => simp [flatR, encR] at ih ⊢; omega
theorem flat_get : ∀ (l : List Rc) (i : Nat) (x : Rc), l[i]? = some x → (flatR l)[i * 3]? = some (.int .i64 x.1.1) ∧ (flatR l)[i * 3 + 1]? = some (.string x.1.2) ∧ (flatR l)[i * 3 + 2]? = some (.int .i64 x.2)
  | [], i, x, h => by simp at h
  | a :: l, 0, x, h => by simp at h; subst h; simp [flatR, encR]
  | a :: l, i + 1, x, h => by
    simp at h
    have := flat_get l i x h
    simp only [flatR, List.flatMap_cons, encR] at this ⊢
    have e : (i + 1) * 3 = i * 3 + 1 + 1 + 1 := by omega
    rw [e]
    simpa using this
theorem flat_app (l m : List Rc) : flatR (l ++ m) = flatR l ++ flatR m := by simp [flatR]
theorem flat_one (x : Rc) : flatR [x] = [.int .i64 x.1.1, .string x.1.2, .int .i64 x.2] := rfl
theorem recsAt_of_block {w : World} {g : Nat} {cur : Array Value} {e : TypeId} {l : List Rc} (hb : w.heap[g]? = some (.cells cur e (0, 0))) (ht : cur.toList.take (l.length * 3) = flatR l) : RecsAt w g 0 l := by
  intro i x hx
  have hi : i < l.length := (List.getElem?_eq_some_iff.1 hx).1
  obtain ⟨h0, h1, h2⟩ := flat_get l i x hx
  rw [← ht, List.getElem?_take_of_lt (by omega)] at h0 h1 h2
  refine ⟨?_, ?_, ?_⟩
  · simp only [World.cell?, hb, Nat.zero_add]
    simpa using h0
  · simp only [World.cell?, hb, Nat.zero_add]
    simpa using h1
  · simp only [World.cell?, hb, Nat.zero_add]
    simpa using h2
/-- v owns the records l, in a block from base on. -/
abbrev OwnR (w : World) (base : Nat) (v : Value) (l : List Rc) : Prop := w.ownsRow base 68 3 v l.length (flatR l)
/-- A slice of the call's own holds what it owns. -/
theorem RS.own {w : World} {base : Nat} {v : Value} {l : List Rc} (h : OwnR w base v l) : RS w v l := by
  rcases h.2 with ⟨rfl, h0⟩ | ⟨g, cap, cur, rfl, _, hb, _, _, _, ht⟩
  · have : l = [] := List.length_eq_zero_iff.1 h0
    subst this
    exact ⟨none, 0, rfl, .inl rfl⟩
  · exact ⟨_, cap, rfl, .inr ⟨g, 0, rfl, (Array.getElem?_eq_some_iff.1 hb).1, recsAt_of_block hb ht⟩⟩
theorem OwnR.below {w w' : World} {base : Nat} {v : Value} {l : List Rc} (h : OwnR w base v l) (hb : Below w.heap.size w w') : OwnR w' base v l := by
  refine ⟨h.1, ?_⟩
  rcases h.2 with ⟨h1, h2⟩ | ⟨g, cap, cur, h1, h2, h3, h4⟩
  · exact .inl ⟨h1, h2⟩
  · exact .inr ⟨g, cap, cur, h1, h2, by rw [hb.block g (Array.getElem?_eq_some_iff.1 h3).1]; exact h3, h4⟩
theorem OwnR.snoc {w : World} {base n : Nat} {v : Value} {l : List Rc} {x : Rc} (h : w.ownsRow base 68 3 v (n + 1) (flatR l ++ [.int .i64 x.1.1, .string x.1.2, .int .i64 x.2])) (hn : n = l.length) : OwnR w base v (l ++ [x]) := by
  subst hn
  have : flatR (l ++ [x]) = flatR l ++ [.int .i64 x.1.1, .string x.1.2, .int .i64 x.2] := by rw [flat_app, flat_one]
  unfold OwnR
  rw [this, List.length_append]
  exact h

theorem Tryz.infoRec : (Tryz.prog.info? 68).map (fun i => (i.zero, i.size, i.bytes)) = some (some (.agg #[.int .i64 0, .string ⟨#[]⟩, .int .i64 0]), 3, 32) := by kernel_rfl
theorem rec_cells (a : Int) (b : ByteArray) (v : Int) : ∀ u ∈ [Value.int .i64 a, .string b, .int .i64 v], u.oneCell' = true := by
  intro u hu
  simp only [List.mem_cons, List.not_mem_nil, or_false] at hu
  rcases hu with rfl | rfl | rfl <;> rfl
end Go.Proofs.YtaagllbcmgnbnaaGreatDoor
/- Rows in memory: keys, numbers, slices of numbers. -/
namespace Go.Proofs.YtaagllbcmgnbnaaGreatDoor
open Go.RowKit
set_option linter.unusedVariables false
set_option maxRecDepth 100000

theorem Tryz.infoRow : (Tryz.prog.info? 82).map (fun i => (i.zero, i.size, i.bytes)) = some (some (.agg #[.int .i64 0, .string ⟨#[]⟩, .int .i64 0, .slice none 0 0]), 4, 56) := by kernel_rfl
/-- What a slice is. -/
abbrev Sl := Option Addr × Nat × Nat
abbrev slV (s : Sl) : Value := .slice s.1 s.2.1 s.2.2
abbrev cellV (n : Int) (s : Sl) : Value := .agg #[.int .i64 n, slV s]
/-- A row as it lies. -/
abbrev Raw := Ky × Int × Sl
def encW (x : Raw) : List Value := [.int .i64 x.1.1, .string x.1.2, .int .i64 x.2.1, slV x.2.2]
abbrev flatW (l : List Raw) : List Value := l.flatMap encW
theorem flatW_len (l : List Raw) : (flatW l).length = l.length * 4 := by
  induction l with
  | nil => rfl
  | cons a l ih => simp [flatW, encW] at ih ⊢; omega
theorem flatW_app (l m : List Raw) : flatW (l ++ m) = flatW l ++ flatW m := by simp [flatW]
theorem flatW_one (x : Raw) : flatW [x] = [.int .i64 x.1.1, .string x.1.2, .int .i64 x.2.1, slV x.2.2] := rfl
theorem flatW_get : ∀ (l : List Raw) (i : Nat) (x : Raw), l[i]? = some x → (flatW l)[i * 4]? = some (.int .i64 x.1.1) ∧ (flatW l)[i * 4 + 1]? = some (.string x.1.2) ∧ (flatW l)[i * 4 + 2]? = some (.int .i64 x.2.1) ∧ (flatW l)[i * 4 + 3]? = some (slV x.2.2)
  | [], i, x, h => by simp at h
  | a :: l, 0, x, h => by simp at h; subst h; simp [flatW, encW]
  | a :: l, i + 1, x, h => by
    simp at h
    have := flatW_get l i x h
    simp only [flatW, List.flatMap_cons, encW] at this ⊢
    have e : (i + 1) * 4 = i * 4 + 1 + 1 + 1 + 1 := by omega
    rw [e]
    simpa using this
theorem encW_cell (x : Raw) : ∀ u ∈ encW x, u.oneCell' = true := by
  intro u hu
  simp only [encW, List.mem_cons, List.not_mem_nil, or_false] at hu
  rcases hu with rfl | rfl | rfl | rfl <;> rfl
theorem flatW_cell (l : List Raw) : ∀ u ∈ flatW l, u.oneCell' = true := by
  intro u hu
  simp only [flatW, List.mem_flatMap] at hu
  obtain ⟨x, _, hx⟩ := hu
  exact encW_cell x u hx
/-- All rows of numbers stay as they are. -/
structure Keep2 (w w' : World) : Prop where
  size : w.heap.size ≤ w'.heap.size
  row : ∀ (g : Nat) (cur : Array Value), w.heap[g]? = some (.cells cur 2 (0, 0)) → w'.heap[g]? = some (.cells cur 2 (0, 0))
theorem Keep2.refl (w : World) : Keep2 w w := ⟨Nat.le_refl _, fun _ _ h => h⟩
theorem Keep2.trans {a b c : World} (h : Keep2 a b) (k : Keep2 b c) : Keep2 a c := ⟨Nat.le_trans h.size k.size, fun g cur hg => k.row g cur (h.row g cur hg)⟩
theorem Keep2.below {w w' : World} (h : Below w.heap.size w w') : Keep2 w w' := ⟨h.size, fun g cur hg => by rw [h.block g (Array.getElem?_eq_some_iff.1 hg).1]; exact hg⟩
theorem Keep2.drew (w : World) (q : Nat) : Keep2 w (w.drewN q) := ⟨Nat.le_refl _, fun _ _ h => h⟩
theorem Keep2.grown {w w' : World} {r : Option Nat} (h : w.grownBy w' r) (hr : ∀ (g : Nat) (cur : Array Value), r = some g → w.heap[g]? ≠ some (.cells cur 2 (0, 0))) : Keep2 w w' :=
  ⟨h.size, fun g cur hg => (h.block g (Array.getElem?_eq_some_iff.1 hg).1 (fun e => hr g cur e.symm hg)).trans hg⟩
theorem OwnL.keep {w w' : World} {base : Nat} {v : Value} {l : List Int} (h : OwnL w base v l) (k : Keep2 w w') : OwnL w' base v l := by
  refine ⟨h.1, ?_⟩
  rcases h.2 with ⟨h1, h2⟩ | ⟨g, cap, cur, h1, h2, h3, h4⟩
  · exact .inl ⟨h1, h2⟩
  · exact .inr ⟨g, cap, cur, h1, h2, k.row g cur h3, h4⟩
theorem OwnC.keep {w w' : World} {base : Nat} {v : Value} {c : Cl} (h : OwnC w base v c) (k : Keep2 w w') : OwnC w' base v c := by
  obtain ⟨a, cap, e, h⟩ := h
  exact ⟨a, cap, e, h.keep k⟩
/-- A row that lies so is r. -/
structure IsW (w : World) (base : Nat) (x : Raw) (r : Rw) : Prop where
  k : x.1 = r.1
  n : x.2.1 = r.2.1
  s : OwnL w base (slV x.2.2) r.2.2
theorem IsW.keep {w w' : World} {base : Nat} {x : Raw} {r : Rw} (h : IsW w base x r) (k : Keep2 w w') : IsW w' base x r := ⟨h.k, h.n, h.s.keep k⟩
theorem IsW.lower {w : World} {base base' : Nat} {x : Raw} {r : Rw} (h : IsW w base x r) (hb : base' ≤ base) : IsW w base' x r := ⟨h.k, h.n, h.s.lower hb⟩
/-- One by one. -/
def AllW (w : World) (base : Nat) (xs : List Raw) (l : List Rw) : Prop := xs.length = l.length ∧ ∀ (i : Nat) (x : Raw) (r : Rw), xs[i]? = some x → l[i]? = some r → IsW w base x r
theorem AllW.nil (w : World) (base : Nat) : AllW w base [] [] := ⟨rfl, fun i x r h => by simp at h⟩
theorem AllW.keep {w w' : World} {base : Nat} {xs : List Raw} {l : List Rw} (h : AllW w base xs l) (k : Keep2 w w') : AllW w' base xs l := ⟨h.1, fun i x r h1 h2 => (h.2 i x r h1 h2).keep k⟩
theorem AllW.lower {w : World} {base base' : Nat} {xs : List Raw} {l : List Rw} (h : AllW w base xs l) (hb : base' ≤ base) : AllW w base' xs l := ⟨h.1, fun i x r h1 h2 => (h.2 i x r h1 h2).lower hb⟩
theorem AllW.snoc {w : World} {base : Nat} {xs : List Raw} {l : List Rw} {x : Raw} {r : Rw} (h : AllW w base xs l) (k : IsW w base x r) : AllW w base (xs ++ [x]) (l ++ [r]) := by
  refine ⟨by simp [h.1], fun i y s h1 h2 => ?_⟩
  by_cases hi : i < xs.length
  · rw [List.getElem?_append_left hi] at h1
    rw [List.getElem?_append_left (h.1 ▸ hi)] at h2
    exact h.2 i y s h1 h2
  · rw [List.getElem?_append_right (by omega)] at h1
    rw [List.getElem?_append_right (by have := h.1; omega)] at h2
    have e : i - xs.length = 0 := by
      have := (List.getElem?_eq_some_iff.1 h1).1
      simp at this
      omega
    rw [e] at h1
    rw [← h.1, e] at h2
    simp at h1 h2
    subst h1 h2
    exact k
abbrev OwnX (w : World) (base : Nat) (v : Value) (xs : List Raw) : Prop := w.ownsRow base 82 4 v xs.length (flatW xs)
/-- v owns the rows l: they and their sets lie from base on. -/
def OwnW (w : World) (base : Nat) (v : Value) (l : List Rw) : Prop := ∃ xs, OwnX w base v xs ∧ AllW w base xs l
theorem OwnX.below {w w' : World} {base : Nat} {v : Value} {xs : List Raw} (h : OwnX w base v xs) (hb : Below w.heap.size w w') : OwnX w' base v xs := by
  refine ⟨h.1, ?_⟩
  rcases h.2 with ⟨h1, h2⟩ | ⟨g, cap, cur, h1, h2, h3, h4⟩
  · exact .inl ⟨h1, h2⟩
  · exact .inr ⟨g, cap, cur, h1, h2, by rw [hb.block g (Array.getElem?_eq_some_iff.1 h3).1]; exact h3, h4⟩
theorem OwnX.lower {w : World} {base base' : Nat} {v : Value} {xs : List Raw} (h : OwnX w base v xs) (hb : base' ≤ base) : OwnX w base' v xs := by
  refine ⟨h.1, ?_⟩
  rcases h.2 with ⟨h1, h2⟩ | ⟨g, cap, cur, h1, h2, h3, h4⟩
  · exact .inl ⟨h1, h2⟩
  · exact .inr ⟨g, cap, cur, h1, by omega, h3, h4⟩
theorem OwnX.snoc {w : World} {base n : Nat} {v : Value} {l : List Raw} {x : Raw} (h : w.ownsRow base 82 4 v (n + 1) (flatW l ++ [.int .i64 x.1.1, .string x.1.2, .int .i64 x.2.1, slV x.2.2])) (hn : n = l.length) : OwnX w base v (l ++ [x]) := by
  subst hn
  have : flatW (l ++ [x]) = flatW l ++ [.int .i64 x.1.1, .string x.1.2, .int .i64 x.2.1, slV x.2.2] := by rw [flatW_app, flatW_one]
  unfold OwnX
  rw [this, List.length_append]
  exact h
theorem OwnW.below {w w' : World} {base : Nat} {v : Value} {l : List Rw} (h : OwnW w base v l) (hb : Below w.heap.size w w') : OwnW w' base v l := by
  obtain ⟨xs, h1, h2⟩ := h
  exact ⟨xs, h1.below hb, h2.keep (.below hb)⟩
theorem OwnW.lower {w : World} {base base' : Nat} {v : Value} {l : List Rw} (h : OwnW w base v l) (hb : base' ≤ base) : OwnW w base' v l := by
  obtain ⟨xs, h1, h2⟩ := h
  exact ⟨xs, h1.lower hb, h2.lower hb⟩
theorem OwnW.nil (w : World) (base : Nat) : OwnW w base (.slice none 0 0) [] := ⟨[], World.ownsRow_nil _ _ _ _, AllW.nil _ _⟩
/-- A slice is no longer than it may be. -/
def CapOk : Value → Prop
  | .slice _ n c => n ≤ c
  | _ => True
/-- From (b, off) on the rows of l lie, one behind the other. -/
def RowAtW (w : World) (b o : Nat) (r : Rw) : Prop := w.cell? ⟨b, o, none⟩ = some (.int .i64 r.1.1) ∧ w.cell? ⟨b, o + 1, none⟩ = some (.string r.1.2) ∧ w.cell? ⟨b, o + 2, none⟩ = some (.int .i64 r.2.1) ∧
    ∃ a cap, w.cell? ⟨b, o + 3, none⟩ = some (.slice a r.2.2.length cap) ∧ NS w (.slice a r.2.2.length cap) r.2.2
def RowsAt (w : World) (b off : Nat) (l : List Rw) : Prop := ∀ (i : Nat) (r : Rw), l[i]? = some r → RowAtW w b (off + i * 4) r
/-- The slice v holds the rows l. -/
def WS (w : World) (v : Value) (l : List Rw) : Prop := ∃ a cap, v = .slice a l.length cap ∧ (l = [] ∨ ∃ b off, a = some ⟨b, off, none⟩ ∧ b < w.heap.size ∧ RowsAt w b off l)
theorem RowAtW.below {w w' : World} {b o : Nat} {r : Rw} (h : RowAtW w b o r) (hb : Below w.heap.size w w') (hlt : b < w.heap.size) : RowAtW w' b o r := by
  obtain ⟨h0, h1, h2, a, cap, h3, h4⟩ := h
  exact ⟨(hb.cell (p := ⟨b, _, none⟩) hlt).trans h0, (hb.cell (p := ⟨b, _, none⟩) hlt).trans h1, (hb.cell (p := ⟨b, _, none⟩) hlt).trans h2, a, cap, (hb.cell (p := ⟨b, _, none⟩) hlt).trans h3, h4.below hb⟩
theorem RowsAt.below {w w' : World} {b off : Nat} {l : List Rw} (h : RowsAt w b off l) (hb : Below w.heap.size w w') (hlt : b < w.heap.size) : RowsAt w' b off l := fun i r hr => (h i r hr).below hb hlt
theorem WS.below {w w' : World} {v : Value} {l : List Rw} (h : WS w v l) (hb : Below w.heap.size w w') : WS w' v l := by
  obtain ⟨a, cap, rfl, h⟩ := h
  refine ⟨a, cap, rfl, ?_⟩
  rcases h with h | ⟨b, off, rfl, hlt, h⟩
  · exact .inl h
  · exact .inr ⟨b, off, rfl, Nat.lt_of_lt_of_le hlt hb.size, h.below hb hlt⟩
theorem WS.shape {w : World} {v : Value} {l : List Rw} (h : WS w v l) : (∃ a cap, v = .slice a 0 cap ∧ l = []) ∨ ∃ b off cap, v = .slice (some ⟨b, off, none⟩) l.length cap ∧ b < w.heap.size ∧ RowsAt w b off l := by
  obtain ⟨a, cap, rfl, h⟩ := h
  rcases h with rfl | ⟨b, off, rfl, hb, hat⟩
  · exact .inl ⟨a, cap, rfl, rfl⟩
  · exact .inr ⟨b, off, cap, rfl, hb, hat⟩
theorem OwnW.at {w : World} {base g : Nat} {cap : Nat} {cur : Array Value} {xs : List Raw} {l : List Rw} (hb : w.heap[g]? = some (.cells cur 82 (0, 0))) (ht : cur.toList.take (xs.length * 4) = flatW xs) (ha : AllW w base xs l) : RowsAt w g 0 l := by
  intro i r hr
  have hi : i < l.length := (List.getElem?_eq_some_iff.1 hr).1
  obtain ⟨x, hx⟩ := getSome (l := xs) (i := i) (by rw [ha.1]; exact hi)
  obtain ⟨h0, h1, h2, h3⟩ := flatW_get xs i x hx
  have hi' : i < xs.length := by rw [ha.1]; exact hi
  rw [← ht, List.getElem?_take_of_lt (by omega)] at h0 h1 h2 h3
  obtain ⟨ek, en, es⟩ := ha.2 i x r hx hr
  obtain ⟨a, cap', es', -⟩ := id (OwnL.ns es)
  have hc : ∀ o u, cur.toList[o]? = some u → w.cell? ⟨g, o, none⟩ = some u := fun o u hu => by
    simp only [World.cell?, hb]
    simpa using hu
  refine ⟨?_, ?_, ?_, a, cap', ?_, ?_⟩
  · rw [← ek]; exact hc _ _ (by rw [Nat.zero_add]; exact h0)
  · rw [← ek]; exact hc _ _ (by rw [Nat.zero_add]; exact h1)
  · rw [← en]; exact hc _ _ (by rw [Nat.zero_add]; exact h2)
  · rw [← es']; exact hc _ _ (by rw [Nat.zero_add]; exact h3)
  · rw [← es']; exact OwnL.ns es
/-- What the call owns may be read. -/
theorem OwnW.ws {w : World} {base : Nat} {v : Value} {l : List Rw} (h : OwnW w base v l) : WS w v l := by
  obtain ⟨xs, hx, ha⟩ := h
  rcases hx.2 with ⟨rfl, h0⟩ | ⟨g, cap, cur, rfl, _, hb, _, _, _, ht⟩
  · have : xs = [] := List.length_eq_zero_iff.1 h0
    subst this
    have : l = [] := List.length_eq_zero_iff.1 ha.1.symm
    subst this
    exact ⟨none, 0, rfl, .inl rfl⟩
  · exact ⟨_, cap, by rw [ha.1], .inr ⟨g, 0, rfl, (Array.getElem?_eq_some_iff.1 hb).1, OwnW.at (cap := cap) hb ht ha⟩⟩
end Go.Proofs.YtaagllbcmgnbnaaGreatDoor
/- Keys as the keys of a map; cells under them. -/
namespace Go.Proofs.YtaagllbcmgnbnaaGreatDoor
open Go.RowKit Go.Maps
set_option linter.unusedVariables false
set_option maxRecDepth 100000

theorem laidOut : laidOutB Tryz.prog = true := by kernel_rfl
theorem Tryz.cells2 : Tryz.prog.cellsOf 2 = 1 := by kernel_rfl
theorem Tryz.cells9 : Tryz.prog.cellsOf 9 = 1 := by kernel_rfl
theorem i64_of_wf {n : Int} (h : (Lit.int .i64 n).wf = true) : -9223372036854775808 ≤ n ∧ n ≤ 9223372036854775807 := by
  simpa [Lit.wf, IntKind.min, IntKind.max, IntKind.signed, IntKind.bits] using h
theorem Tryz.rowKey : (66 : TypeId) < Tryz.prog.types.size := of_decide_eq_true (by kernel_rfl)
theorem Tryz.wideKey : (match Tryz.prog.underlying 66 with | some (.array _ _) | some (.struct _) => true | _ => false) = true := by kernel_rfl
theorem klaw : WideMaps.KeyLaw Tryz.prog 66 := deep_law_laid laidOut (m := 2) (by omega) Tryz.rowKey (by kernel_rfl) Tryz.wideKey
theorem law : Keyed Tryz.prog 66 := Keyed.of_law klaw
theorem Tryz.keyTypeKey : Tryz.prog.keyType 66 = true := by kernel_rfl
theorem Tryz.sizeTypes : ∃ n, Tryz.prog.types.size = n + 1 := by
  have h : (2 : Nat) < Tryz.prog.types.size := Nat.lt_trans (by decide) Tryz.rowKey
  exact ⟨Tryz.prog.types.size - 1, by omega⟩

/-- A key that may be a map's. -/
def Good (x : Ky) : Prop := (-9223372036854775808 ≤ x.1 ∧ x.1 ≤ 9223372036854775807) ∧ x.2.size ≤ maxLen
def klOf (x : Ky) : Lit := .string (keyBytes [.int .i64 x.1, .string x.2.data.toList])
theorem wf_i64 {n : Int} (h : -9223372036854775808 ≤ n ∧ n ≤ 9223372036854775807) : (Lit.int .i64 n).wf = true := by
  simpa [Lit.wf, IntKind.min, IntKind.max, IntKind.signed, IntKind.bits] using h
theorem lits (d : Nat) (c0 c1 : Value) : Tryz.prog.keyLits (d + 1) 66 [c0, c1] = ((Tryz.prog.keyLits d 2 [c0]).bind fun a => (Tryz.prog.keyLits d 9 [c1]).bind fun b => some (a ++ b)) := by
  rw [Program.keyLits.eq_def]
  simp only [Tryz.underlying66]
  rw [if_pos ⟨by rw [Tryz.cellsKey]; rfl, by simp⟩]
  simp only [List.mapM_cons, List.mapM_nil, Tryz.cells2, Tryz.cells9]
  cases h1 : Tryz.prog.keyLits d 2 [c0] <;> cases h2 : Tryz.prog.keyLits d 9 [c1] <;> simp [h1, h2]
theorem lit2 (d : Nat) (c : Value) (l : List Lit) : Tryz.prog.keyLits (d + 1) 2 [c] = some l ↔ ∃ a : Int, c = .int .i64 a ∧ (-9223372036854775808 ≤ a ∧ a ≤ 9223372036854775807) ∧ l = [.int .i64 a] := by
  constructor
  · intro h
    cases c <;> simp [Program.keyLits, Tryz.underlying2] at h
    obtain ⟨⟨rfl, hw⟩, rfl⟩ := h
    exact ⟨_, rfl, i64_of_wf hw, rfl⟩
  · rintro ⟨a, rfl, ha, rfl⟩
    simp [Program.keyLits, Tryz.underlying2, wf_i64 ha]
theorem lit9 (d : Nat) (c : Value) (l : List Lit) : Tryz.prog.keyLits (d + 1) 9 [c] = some l ↔ ∃ s : ByteArray, c = .string s ∧ s.size ≤ maxLen ∧ l = [.string s.data.toList] := by
  constructor
  · intro h
    cases c <;> simp [Program.keyLits, Tryz.underlying9] at h
    obtain ⟨hw, rfl⟩ := h
    exact ⟨_, rfl, hw, rfl⟩
  · rintro ⟨a, rfl, ha, rfl⟩
    simp [Program.keyLits, Tryz.underlying9, ha]
theorem key_mk {x : Ky} (h : Good x) : keyOf Tryz.prog 66 (.agg #[.int .i64 x.1, .string x.2]) = some (klOf x) := by
  obtain ⟨n, hn⟩ := Tryz.sizeTypes
  have h1 := (lit2 n (.int .i64 x.1) _).2 ⟨x.1, rfl, h.1, rfl⟩
  have h2 := (lit9 n (.string x.2) _).2 ⟨x.2, rfl, h.2, rfl⟩
  have hf : (Value.agg #[.int .i64 x.1, .string x.2]).formed Tryz.prog 66 = true := by simp [Value.formed, Tryz.underlying66, Tryz.cellsKey]
  unfold keyOf
  simp only [Tryz.underlying66, Tryz.keyTypeKey, hf, Bool.and_self, if_true]
  rw [show (Value.agg #[.int .i64 x.1, .string x.2]).cells.toList = [.int .i64 x.1, .string x.2] from rfl, hn, lits, h1, h2]
  rfl
theorem key_inv {v : Value} {l : Lit} (h : keyOf Tryz.prog 66 v = some l) : ∃ x : Ky, v = .agg #[.int .i64 x.1, .string x.2] ∧ l = klOf x ∧ Good x := by
  obtain ⟨xs, L, rfl, hL, rfl⟩ := keyOf_top Tryz.wideKey h
  have hlen : xs.toList.length = 2 := by
    rw [Program.keyLits.eq_def] at hL
    simp only [Tryz.underlying66] at hL
    split at hL
    · rename_i hc
      rw [hc.1, Tryz.cellsKey]
    · cases hL
  obtain ⟨n, hn⟩ := Tryz.sizeTypes
  obtain ⟨xl⟩ := xs
  match xl, hlen with
  | [c0, c1], _ =>
    have hL' : Tryz.prog.keyLits (Tryz.prog.types.size + 1) 66 [c0, c1] = some L := hL
    rw [hn, lits] at hL'
    cases h1 : Tryz.prog.keyLits (n + 1) 2 [c0] with
    | none => rw [h1] at hL'; cases hL'
    | some l1 =>
      cases h2 : Tryz.prog.keyLits (n + 1) 9 [c1] with
      | none => rw [h1, h2] at hL'; cases hL'
      | some l2 =>
        obtain ⟨a, rfl, ha, rfl⟩ := (lit2 _ _ _).1 h1
        obtain ⟨s, rfl, hs, rfl⟩ := (lit9 _ _ _).1 h2
        rw [h1, h2] at hL'
        injection hL' with hL'
        subst hL'
        exact ⟨(a, s), rfl, rfl, ha, hs⟩
theorem kl_inj {x y : Ky} (hx : Good x) (hy : Good y) (h : klOf x = klOf y) : x = y := by
  have h1 := key_mk hx
  have h2 := key_mk hy
  rw [h] at h1
  have := law.inj h1 h2
  injection this with this
  injection this with this
  injection this with e1 e2
  injection e1 with _ e1
  injection e2 with e2 _
  injection e2 with e2
  exact Prod.ext e1 e2
abbrev keyV (x : Ky) : Value := .agg #[.int .i64 x.1, .string x.2]
theorem kl_key (x : Ky) : WideAt.IsKeyLit (klOf x) := trivial
theorem kl_same (x : Ky) : (klOf x).sameKey (klOf x) = true := by simp [klOf, Lit.sameKey]
theorem invK (key : Value) (kl : Lit) (h : keyOf Tryz.prog 66 key = some kl) : ∃ x : Ky, key = keyV x := by
  obtain ⟨x, hx, _⟩ := key_inv h
  exact ⟨x, hx⟩
theorem key_back {x : Ky} {kl : Lit} (h : keyOf Tryz.prog 66 (keyV x) = some kl) : kl = klOf x ∧ Good x := by
  obtain ⟨x', e, rfl, hg⟩ := key_inv h
  injection e with e
  injection e with e
  injection e with e1 e2
  injection e1 with _ e1
  injection e2 with e2 _
  injection e2 with e2
  obtain rfl : x = x' := Prod.ext e1 e2
  exact ⟨rfl, hg⟩
/-- How an element reads: as itself. -/
def RC (v : Value) : Option (DataW Value × List MemPlace) := some (.held v, [])
theorem invV (v : Value) (y : DataW Value × List MemPlace) (h : RC v = some y) : ∃ c : Value, v = id c := ⟨v, rfl⟩
theorem rc_held {v : Value} {d : DataW Value} {ps : List MemPlace} (h : RC v = some (d, ps)) : d = .held v := by
  injection h with h
  injection h with h _
  exact h.symm
theorem zeroC (w : World) : (zeroValue 80).run Tryz.prog w = .ok (cellV 0 (none, 0, 0)) w := by kernel_rfl
abbrev zC : Value := cellV 0 (none, 0, 0)
/-- The map holds the cells of st. -/
structure MapC (w : World) (base : Nat) (D : DataW Value) (st : List Rw) : Prop where
  tidy : Tidy D
  size : Maps.size D = st.length
  non : ∀ x, Good x → look st x = none → Maps.has D (klOf x) = false
  yes : ∀ x c, Good x → look st x = some c → ∃ s : Sl, (∀ z, D.atKey (klOf x) z = .held (cellV c.1 s)) ∧ OwnL w base (slV s) c.2
theorem MapC.start (w : World) (base : Nat) : MapC w base (.map []) [] := ⟨tidy_empty, rfl, fun x _ _ => by simp [Maps.has], fun x c _ h => by simp [look] at h⟩
theorem MapC.keep {w w' : World} {base : Nat} {D : DataW Value} {st : List Rw} (h : MapC w base D st) (k : Keep2 w w') : MapC w' base D st :=
  ⟨h.tidy, h.size, h.non, fun x c hx hc => by obtain ⟨s, h1, h2⟩ := h.yes x c hx hc; exact ⟨s, h1, h2.keep k⟩⟩
/-- One more under its key. -/
theorem MapC.put {w : World} {base : Nat} {D : DataW Value} {st st' : List Rw} {x : Ky} {c : Cl} {s : Sl} (h : MapC w base D st) (hx : Good x) (hs : OwnL w base (slV s) c.2)
    (hlen : st'.length = if (look st x).isSome then st.length else st.length + 1) (hl : ∀ y, look st' y = if y = x then some c else look st y) : MapC w base (D.put (klOf x) (.held (cellV c.1 s))) st' := by
  have hi := h.tidy.isMap
  have hhas : Maps.has D (klOf x) = (look st x).isSome := by
    cases e : look st x with
    | none => exact h.non x hx e
    | some d =>
      obtain ⟨s', h1, _⟩ := h.yes x d hx e
      exact has_true_of_atKey h1
  refine ⟨h.tidy.put (kl_key x) _, ?_, fun y hy hn => ?_, fun y d hy hd => ?_⟩
  · rw [size_put h.tidy, hhas, h.size, hlen]
  · rw [hl] at hn
    by_cases e : y = x
    · rw [if_pos e] at hn; cases hn
    · rw [if_neg e] at hn
      rw [has_put_other (fun e' => e (kl_inj hy hx e'))]
      exact h.non y hy hn
  · rw [hl] at hd
    by_cases e : y = x
    · rw [if_pos e] at hd
      injection hd with hd
      subst e hd
      exact ⟨s, fun z => atKey_put_same hi (kl_key y) _ z, hs⟩
    · rw [if_neg e] at hd
      obtain ⟨s', h1, h2⟩ := h.yes y d hy hd
      exact ⟨s', fun z => by rw [atKey_put_other (fun e' => e (kl_inj hy hx e'))]; exact h1 z, h2⟩
end Go.Proofs.YtaagllbcmgnbnaaGreatDoor
