/- Texts laid together: GSort, GCat. -/
import Derived.Test.YtejgcflcckjlpaaDoorOC7
import Derived.Shelf.SortG.AssemblyIn
import Derived.Shelf.SortG.SortNone
import Derived.Shelf.SlicesE.Compact
import Derived.Shelf.SlGeneric
import Derived.Ground.SlgnProg
import Derived.Sort.EveryDepth
import Derived.Lib.AppendZeros
import Derived.Laws.OwnMore
/- Numbers sorted, and each once, in a row of the call's own. -/
namespace Go.Proofs.YtejgcflcckjlpaaDoor
open Go.RowKit Go.Shelf
open Go.Sort (grow putRow putCells Holds)
open Go.Lib (compactUpTo)
set_option linter.unusedVariables false
set_option maxRecDepth 100000
abbrev encL : Int → Value := Value.int .i64
theorem holds_own {w : World} {g : Nat} {cur : Array Value} {e : TypeId} {l : List Int} (hb : w.heap[g]? = some (.cells cur e (0, 0))) (ht : cur.toList.take (l.length * 1) = l.map encL) : Holds encL w g 0 l.toArray := by
  intro j hj
  have hj' : j < l.length := by simpa using hj
  refine ⟨?_, by simp [World.frozen?, hb]⟩
  have h1 : (cur.toList.take (l.length * 1))[j]? = (l.map encL)[j]? := by rw [ht]
  rw [List.getElem?_take_of_lt (by omega)] at h1
  simp only [World.cell?, hb, Nat.zero_add]
  simp only [Option.isSome_none, Bool.false_eq_true, if_false]
  rw [← Array.getElem?_toList, h1, get_bang hj]
  simp [hj']
theorem heap_put {w : World} {g n : Nat} {os : Array Obj} {cur : Array Value} {e : TypeId} {fr : Nat × Nat} (d : Array Int) (hb : w.heap[g]? = some (.cells cur e fr)) :
    (grow (putRow encL (Go.Sort.ahead w n) g 0 d) os).heap[g]? = some (.cells (putCells encL 0 d cur) e fr) := by
  have hg : g < w.heap.size := (Array.getElem?_eq_some_iff.1 hb).1
  rw [Go.Sort.heap_grow_old _ _ (by simpa using hg)]
  simp [putRow, Go.Sort.mapBlock, Go.Sort.ahead, Array.getElem?_modify, hb, Go.Sort.onCells]
theorem grownBy_put {w : World} {g n : Nat} {os : Array Obj} (d : Array Int) : w.grownBy (grow (putRow encL (Go.Sort.ahead w n) g 0 d) os) (some g) := by
  refine ⟨rfl, rfl, rfl, by simp, fun k hk hne => ?_⟩
  rw [Go.Sort.heap_grow_old _ _ (by simpa using hk)]
  have : g ≠ k := fun e => hne (by rw [e])
  simp [putRow, Go.Sort.mapBlock, Go.Sort.ahead, Array.getElem?_modify, this]
theorem take_put (cur : Array Value) (ts us : List Int) (h : ts.length + us.length ≤ cur.size) : (putCells encL 0 (ts ++ us).toArray cur).toList.take ts.length = ts.map encL := by
  apply List.ext_getElem?
  intro j
  by_cases hj : j < ts.length
  · rw [List.getElem?_take_of_lt hj, Array.getElem?_toList]
    simp only [putCells, Array.getElem?_mapIdx]
    have h1 : j < cur.size := by omega
    have h2 : j < (ts ++ us).toArray.size := by simp; omega
    rw [Array.getElem?_eq_getElem h1]
    simp only [Option.map_some, Nat.zero_le, true_and, Nat.zero_add, Nat.sub_zero, if_pos h2]
    rw [get_bang h2]
    simp [hj]
  · rw [List.getElem?_take_eq_none (by omega), List.getElem?_eq_none (by simp; omega)]
end Go.Proofs.YtejgcflcckjlpaaDoor
/- slices.Grow and slices.Concat: a row of the call's own that holds both, one behind the other. -/
namespace Go.Proofs.YtejgcflcckjlpaaDoor
open Go.RowKit
set_option linter.unusedVariables false
set_option maxRecDepth 100000

/-- Numbers, appended onto a row of the call's own. -/
theorem append_ns {W : World} {base : Nat} {v u : Value} {l m : List Int} (ty : TypeId) (hown : OwnL W base v l) (hns : NS W u m) (hl : l.length + m.length ≤ 1000000) (hb : base ≤ W.heap.size) :
    ∃ v' W', (Builtin.append_ #[53, 53] ty #[v, u]).run Tryd.prog W = .ok v' W' ∧ OwnL W' base v' (l ++ m) ∧ W.grownBy W' v.ownBlock ∧ (v'.ownBlock = v.ownBlock ∨ v'.ownBlock = some W.heap.size) := by
  obtain ⟨i0, hi, hz0, hz1, hz2⟩ := info_parts Tryd.info2
  obtain ⟨a, cap, rfl, h⟩ := hns
  have go : ∀ (ad : Addr) (news : List Value), news = m.map (Value.int .i64) → (∀ j u, news[j]? = some u → W.cell? (ad.add j) = some u) → ∃ v' W', (Builtin.append_ #[53, 53] ty #[v, .slice (some ad) m.length cap]).run Tryd.prog W = .ok v' W' ∧ OwnL W' base v' (l ++ m) ∧ W.grownBy W' v.ownBlock ∧ (v'.ownBlock = v.ownBlock ∨ v'.ownBlock = some W.heap.size) := by
    intro ad news hn hc
    obtain ⟨v', w', hr, h2, h3, _, h5⟩ := run_append_own_at (P := Tryd.prog) W base 53 ty 2 i0 _ 1 8 Tryd.underlying53 hi hz0 hz1 hz2 rfl (by decide) v l.length (l.map (Value.int .i64)) hown ad m.length cap news (by subst hn; simp) hc (by subst hn; intro u hu; obtain ⟨x, _, rfl⟩ := List.mem_map.1 hu; rfl) (by unfold maxLen; omega) (by omega) hb
    refine ⟨v', w', hr, ?_, h3, h5⟩
    subst hn
    unfold OwnL
    rw [List.map_append, List.length_append]
    exact h2
  rcases h with rfl | ⟨b, off, rfl, hb, hat⟩
  · cases a with
    | none =>
      refine ⟨v, W, ?_, by rw [List.append_nil]; exact hown, World.grownBy.refl _ _, .inl rfl⟩
      rcases hown.2 with ⟨rfl, h0⟩ | ⟨g, cap', cur, rfl, _, _, hnc, _⟩
      · simp [Builtin.append_, run_underlying Tryd.underlying53, sizeOf, typeInfo, hi, Builtin.lenOf, Builtin.firstCells]
      · simp [Builtin.append_, run_underlying Tryd.underlying53, sizeOf, typeInfo, hi, Builtin.lenOf, Builtin.firstCells, hnc, storeCells]
    | some ad => exact go ad [] rfl (fun j u hj => by simp at hj)
  · refine go ⟨b, off, none⟩ _ rfl fun j u hj => ?_
    rw [Addr.add_lit]
    rw [List.getElem?_map] at hj
    cases hm : m[j]? with
    | none => rw [hm] at hj; cases hj
    | some x =>
      rw [hm] at hj
      injection hj with hj
      subst hj
      exact hat j x hm
/-- So many of two. -/
def catK (a b : List Int) : Nat → List Int
  | 0 => []
  | 1 => a
  | _ => a ++ b
structure CatRel (w : World) (g : Nat) (va vb : Value) (a b : List Int) (k : Nat) (v : Value) (W : World) : Prop where
  own : OwnL W w.heap.size v (catK a b k)
  bel : Below w.heap.size w W
theorem cat_step {w W : World} {g : Nat} {va vb : Value} {a b : List Int} {k : Nat} {v : Value} (ha : NS w va a) (hb : NS w vb b) (hla : a.length ≤ 100000) (hlb : b.length ≤ 100000) (hk : k < 2) (h : CatRel w g va vb a b k v W) (ty : TypeId) :
    ∃ v' W', (Builtin.append_ #[53, 53] ty #[v, if k = 0 then va else vb]).run Tryd.prog W = .ok v' W' ∧ CatRel w g va vb a b (k + 1) v' W' := by
  have fin : ∀ v' W', OwnL W' w.heap.size v' (catK a b (k + 1)) → W.grownBy W' v.ownBlock → CatRel w g va vb a b (k + 1) v' W' := fun v' W' h1 h2 =>
    ⟨h1, h.bel.grown h2 h.bel.size (own_row h.own)⟩
  have hk' : k = 0 ∨ k = 1 := by omega
  rcases hk' with rfl | rfl
  · obtain ⟨v', W', hr, ho, hg, _⟩ := append_ns ty h.own (ha.below h.bel) (by simp [catK]; omega) h.bel.size
    exact ⟨v', W', hr, fin v' W' ho hg⟩
  · obtain ⟨v', W', hr, ho, hg, _⟩ := append_ns ty h.own (hb.below h.bel) (by simp [catK]; omega) h.bel.size
    exact ⟨v', W', hr, fin v' W' ho hg⟩
end Go.Proofs.YtejgcflcckjlpaaDoor
