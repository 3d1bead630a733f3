/- A slice of strings: what its cells hold; one that came in, opened; TextWeight. -/
import Derived.Test.YtjegnffhegiajaaRows
import Derived.WalkKit
import Derived.ProofKit
import Derived.OpenShut
import Derived.ShutString
import Derived.ChangeOld
import Derived.Below
import Derived.SliceStrings
import Derived.LaidMore
import Derived.WalkSmall
import Derived.Stop.Joined
import Derived.Test.YtjegnffhegiajaaKBase
import Derived.Test.YtjegnffhegiajaaLight
import Derived.Deep.Slices
import Derived.OwnWalk
import Derived.Deep.QuietTactic
import Derived.BigQuiet
import Derived.Maps.AppendAt
namespace Go.Proofs.Ytjegnffhegiajaa
open Go.ChangeShapes Go.WideShapes Go.ChangeAt Go.RowKit
set_option linter.unusedVariables false
set_option maxRecDepth 100000

theorem own : ownKnob Try.prog.godebug = none := by kernel_rfl
theorem laidOut : laidOutB Try.prog = true := by kernel_rfl
theorem Try.cells9 : Try.prog.cellsOf 9 = 1 := by kernel_rfl

theorem cell_block {w : World} {b o : Nat} {v : Value} (h : w.cell? ⟨b, o, none⟩ = some v) : b < w.heap.size := by
  rcases Nat.lt_or_ge b w.heap.size with h1 | h1
  · exact h1
  · simp [World.cell?, h1] at h
theorem Try.bytes9 : Try.prog.bytesOf 9 = 16 := by kernel_rfl

/-- From (b, off) on the strings of l lie, one behind the other. -/
def StrsAt (w : World) (b off : Nat) (l : List ByteArray) : Prop := ∀ i x, l[i]? = some x → w.cell? ⟨b, off + i, none⟩ = some (.string x)
/-- The slice v holds the strings l. -/
def SS (w : World) (v : Value) (l : List ByteArray) : Prop :=
  ∃ a cap, v = .slice a l.length cap ∧ (l = [] ∨ ∃ b off, a = some ⟨b, off, none⟩ ∧ b < w.heap.size ∧ StrsAt w b off l)
/-- Each string is one that a machine can hold. -/
def WfS (l : List ByteArray) : Prop := ∀ x ∈ l, x.size ≤ 140737488351232

theorem StrsAt.below {w w' : World} {b off B : Nat} {l : List ByteArray} (h : StrsAt w b off l) (hb : Below B w w') (hlt : b < B) : StrsAt w' b off l := fun i x hx => (hb.cell (p := ⟨b, off + i, none⟩) hlt).trans (h i x hx)
theorem SS.below {w w' : World} {v : Value} {l : List ByteArray} (h : SS w v l) (hb : Below w.heap.size w w') : SS w' v l := by
  obtain ⟨a, cap, rfl, h⟩ := h
  refine ⟨a, cap, rfl, ?_⟩
  rcases h with h | ⟨b, off, rfl, hlt, h⟩
  · exact .inl h
  · exact .inr ⟨b, off, rfl, Nat.lt_of_lt_of_le hlt hb.size, h.below hb hlt⟩
theorem SS.shape {w : World} {v : Value} {l : List ByteArray} (h : SS w v l) : (∃ a cap, v = .slice a 0 cap ∧ l = []) ∨ ∃ b off cap, v = .slice (some ⟨b, off, none⟩) l.length cap ∧ b < w.heap.size ∧ StrsAt w b off l := by
  obtain ⟨a, cap, rfl, h⟩ := h
  rcases h with rfl | ⟨b, off, rfl, hb, hat⟩
  · exact .inl ⟨a, cap, rfl, rfl⟩
  · exact .inr ⟨b, off, cap, rfl, hb, hat⟩
abbrev flatS (l : List ByteArray) : List Value := l.map Value.string
theorem strsAt_of_block {w : World} {g : Nat} {cur : Array Value} {e : TypeId} {l : List ByteArray} (hb : w.heap[g]? = some (.cells cur e (0, 0))) (ht : cur.toList.take (l.length * 1) = flatS l) : StrsAt w g 0 l := by
  intro i x hx
  have hi : i < l.length := (List.getElem?_eq_some_iff.1 hx).1
  have h0 : (flatS l)[i]? = some (.string x) := by simp [flatS, hx]
  rw [← ht, List.getElem?_take_of_lt (by omega)] at h0
  simp only [World.cell?, hb, Nat.zero_add]
  simpa using h0
/-- v owns the strings l, in a block from base on. -/
abbrev OwnS (w : World) (base : Nat) (v : Value) (l : List ByteArray) : Prop := w.ownsRow base 9 1 v l.length (flatS l)
theorem SS.own {w : World} {base : Nat} {v : Value} {l : List ByteArray} (h : OwnS w base v l) : SS w v l := by
  rcases h.2 with ⟨rfl, h0⟩ | ⟨g, cap, cur, rfl, _, hb, _, _, _, ht⟩
  · have : l = [] := List.length_eq_zero_iff.1 h0
    subst this
    exact ⟨none, 0, rfl, .inl rfl⟩
  · exact ⟨_, cap, rfl, .inr ⟨g, 0, rfl, (Array.getElem?_eq_some_iff.1 hb).1, strsAt_of_block hb ht⟩⟩
theorem OwnS.below {w w' : World} {base : Nat} {v : Value} {l : List ByteArray} (h : OwnS w base v l) (hb : Below w.heap.size w w') : OwnS w' base v l := by
  refine ⟨h.1, ?_⟩
  rcases h.2 with ⟨h1, h2⟩ | ⟨g, cap, cur, h1, h2, h3, h4⟩
  · exact .inl ⟨h1, h2⟩
  · exact .inr ⟨g, cap, cur, h1, h2, by rw [hb.block g (Array.getElem?_eq_some_iff.1 h3).1]; exact h3, h4⟩
theorem OwnS.snoc {w : World} {base n : Nat} {v : Value} {l : List ByteArray} {x : ByteArray} (h : w.ownsRow base 9 1 v (n + 1) (flatS l ++ [.string x])) (hn : n = l.length) : OwnS w base v (l ++ [x]) := by
  subst hn
  have : flatS (l ++ [x]) = flatS l ++ [.string x] := by simp [flatS]
  unfold OwnS
  rw [this, List.length_append]
  exact h
theorem OwnS.shape {w : World} {base : Nat} {v : Value} {l : List ByteArray} (h : OwnS w base v l) : ∃ a cap, v = .slice a l.length cap := by
  obtain ⟨a, cap, h, _⟩ := SS.own h
  exact ⟨a, cap, h⟩
theorem own_rowS {w : World} {base n : Nat} {e : TypeId} {size : Nat} {v : Value} {xs : List Value} (h : w.ownsRow base e size v n xs) : ∀ k, v.ownBlock = some k → base ≤ k := fun k hk => (h.lt k hk).1

/-- A slice of strings that came in. -/
theorem open_strl {H : Type} {enc : TypeId × Value → H} {W : World} {a : Option Addr} {len cap : Nat} {d : DataW H} {p : List MemPlace} (h : DataW.Trod enc Try.prog W 0 (fun _ => true) true 22 (.slice a len cap) d p) (hlg : Light Try.prog 22 d) :
    ∃ l : List ByteArray, l.length = len ∧ l.length ≤ 8796093021952 ∧ WfS l ∧ SS W (.slice a len cap) l := by
  obtain ⟨fuel, hf⟩ := h
  rcases open_strings Try.underlying22 Try.underlying9 Try.cells9 hf with ⟨hcs, _⟩ | ⟨x, l, c, ss, hcs, _, hl, hm, hz, hx, hcell, hsz⟩
  · simp [Value.cells] at hcs
    obtain ⟨rfl, rfl, rfl⟩ := hcs
    exact ⟨[], rfl, by simp, fun x hx => by simp at hx, none, 0, rfl, .inl rfl⟩
  · simp [Value.cells] at hcs
    obtain ⟨rfl, rfl, rfl⟩ := hcs
    simp at hz
    injection hx with hd _
    subst hd
    obtain ⟨hlg1, hlg2⟩ := light_slice Try.underlying22 hlg
    rw [Try.bytes9] at hlg1
    unfold reachBytes at hlg1
    have hsl : (ss.take len).length = len := by simp; omega
    have hlen : (strs (H := H) (ss.take len)).length = len := by unfold strs; rw [List.length_map, hsl]
    refine ⟨ss.take len, hsl, by omega, ?_, _, cap, by rw [hsl], ?_⟩
    · intro y hy
      have hg := hlg2 (.lit (.string y.data.toList)) (by unfold strs; exact List.mem_map.2 ⟨y, hy, rfl⟩)
      have := light_string hg
      unfold reachBytes at this
      exact this
    · by_cases h0 : len = 0
      · left; subst h0; rfl
      right
      obtain ⟨b, off, spot⟩ := x
      have first := hcell 0 (by omega)
      have hspot : spot = none := by simpa [Addr.add] using World.cell?_spot first
      subst hspot
      refine ⟨b, off, rfl, ?_, ?_⟩
      · have := first
        rw [add_plain] at this
        exact cell_block this
      · intro i y hy
        have hi : i < len := by have := (List.getElem?_eq_some_iff.1 hy).1; omega
        rw [List.getElem?_take_of_lt hi] at hy
        have := hcell i (by omega)
        rw [add_plain] at this
        rw [this, List.getD_eq_getElem?_getD, hy]
        rfl

theorem getSome {α : Type} {l : List α} {i : Nat} (h : i < l.length) : ∃ x, l[i]? = some x := ⟨l[i], List.getElem?_eq_getElem h⟩

/-! ### TextWeight -/
def sizes (l : List ByteArray) : Nat := (l.map fun x => x.size).sum
theorem sizes_take (l : List ByteArray) (k : Nat) (x : ByteArray) (h : l[k]? = some x) : sizes (l.take (k + 1)) = sizes (l.take k) + x.size := by
  unfold sizes
  rw [List.take_add_one, h]
  simp
theorem sizes_mem {l : List ByteArray} {x : ByteArray} (h : x ∈ l) : x.size ≤ sizes l := by
  unfold sizes
  induction l with
  | nil => simp at h
  | cons a l ih =>
    simp only [List.map_cons, List.sum_cons]
    rcases List.mem_cons.1 h with rfl | h
    · omega
    · have := ih h; omega
theorem sizes_app (a b : List ByteArray) : sizes (a ++ b) = sizes a + sizes b := by simp [sizes]
theorem sizes_take_le (l : List ByteArray) (k : Nat) : sizes (l.take k) ≤ sizes l := by
  have : sizes l = sizes (l.take k) + sizes (l.drop k) := by rw [← sizes_app, List.take_append_drop]
  omega

set_option maxRecDepth 100000 in
theorem weight_any (v : Value) (l : List ByteArray) (w : World) (h : SS w v l) (hl : l.length ≤ 8796093021952) (hwf : WfS l) :
    Calls Try.prog 13 #[v] w fun e w' => (∃ n : Int, e = .returned (.int .i64 n) ∧ (n ≤ 9000 → l.length + sizes l ≤ 9000)) ∧ w' = w := by
  obtain ⟨a, cap, rfl, h⟩ := h
  rcases h with rfl | ⟨b, off, rfl, hb, hat⟩
  · go_enter Try.func13, Try.ntmps13
    go_wp2
    go_loop [3, 4] (fun n i => n = .int .i64 0 ∧ i = .int .i64 0) (fun _ _ => 0)
    case atStart => exact ⟨rfl, rfl⟩
    case round =>
      obtain ⟨rfl, rfl⟩ := hrel
      go_wp2
      go_ret
      exact ⟨⟨_, rfl, by simp [sizes]⟩, rfl⟩
  · obtain ⟨n, hn⟩ : ∃ n, l.length = n := ⟨_, rfl⟩
    rw [hn] at hl ⊢
    go_enter Try.func13, Try.ntmps13
    go_wp2
    go_loop [3, 4] (fun x i => ∃ (k : Nat) (z : Int), k ≤ n ∧ i = .int .i64 k ∧ x = .int .i64 z ∧ Hid (z = ((n + sizes (l.take k) : Nat) : Int)) ∧ 0 ≤ z ∧ z ≤ 150000000000000) (fun _ i => n - (intOf i).toNat)
    case atStart => exact ⟨0, n, by omega, rfl, rfl, rfl, by omega, by omega⟩
    case round =>
      obtain ⟨k, z, hk, rfl, rfl, HZ, hz0, hz⟩ := hrel
      by_cases hlt : k < n
      · obtain ⟨y, hy⟩ := getSome (l := l) (i := k) (by omega)
        have c0 := hat k y hy
        have hsz := hwf y (List.mem_of_getElem? hy)
        have hst : Hid (_ = _) := sizes_take l k y hy
        clear hat hy
        by_cases hx : z < 1048576
        · go_wp2
          go_round
          case rel => exact ⟨k + 1, _, by omega, by go_num, rfl, by have h1 := HZ.out; have h2 := hst.out; unfold Hid; omega, by omega, by omega⟩
          case measure => simp [intOf]; omega
        · have hx' : (1048576 : Int) ≤ z := by omega
          go_wp2
          go_ret
          exact ⟨⟨_, rfl, fun h => by omega⟩, rfl⟩
      · have hlt' : n ≤ k := by omega
        have e := HZ.out
        rw [List.take_of_length_le (by omega)] at e
        clear HZ
        go_wp2
        go_ret
        exact ⟨⟨_, rfl, fun h => by omega⟩, rfl⟩
end Go.Proofs.Ytjegnffhegiajaa
