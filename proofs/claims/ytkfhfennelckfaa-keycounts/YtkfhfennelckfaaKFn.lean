/- Contracts over slices of keys: KeysWeight, heavy, CopyKeys, EqKeys, EqNumbers, Keys. -/
import Derived.Test.YtkfhfennelckfaaKRow
import Derived.Test.YtkfhfennelckfaaKCmp
import Derived.Deep.QuietTactic
import Derived.BigQuiet
import Derived.WalkSmall
import Derived.Maps.AppendAt
namespace Go.Proofs.Ytkfhfennelckfaa
open Go.RowKit
set_option linter.unusedVariables false

theorem getSome {α : Type} {l : List α} {i : Nat} (h : i < l.length) : ∃ x, l[i]? = some x := ⟨l[i], List.getElem?_eq_getElem h⟩

theorem weight_any (v : Value) (l : List Ky) (w : World) (h : KS w v l) (hl : l.length ≤ maxLen) : Calls Try.prog 25 #[v] w fun e w' => (∃ n : Int, e = .returned (.int .i64 n)) ∧ w' = w := by
  obtain ⟨a, cap, rfl, h⟩ := h
  unfold maxLen at hl
  rcases h with rfl | ⟨b, off, rfl, hb, hat⟩
  · go_enter Try.func25, Try.ntmps25
    go_wp2
    go_loop [3, 4] (fun n i => n = .int .i64 0 ∧ i = .int .i64 0) (fun _ _ => 0)
    case atStart => exact ⟨rfl, rfl⟩
    case round =>
      obtain ⟨rfl, rfl⟩ := hrel
      go_wp2
      go_ret
      exact ⟨⟨_, rfl⟩, rfl⟩
  · go_enter Try.func25, Try.ntmps25
    go_wp2
    go_loop [3, 4] (fun n i => ∃ (k : Nat) (x : Int), k ≤ l.length ∧ i = .int .i64 k ∧ n = .int .i64 x) (fun _ i => l.length - (intOf i).toNat)
    case atStart => exact ⟨0, _, by omega, rfl, rfl⟩
    case round =>
      obtain ⟨k, x, hk, rfl, rfl⟩ := hrel
      by_cases hlt : k < l.length
      · obtain ⟨y, hy⟩ := getSome hlt
        obtain ⟨c0, c1⟩ := hat k y hy
        obtain ⟨ya, yb⟩ := y
        clear hat hy
        by_cases hx : x < 1048576
        · go_wp2
          go_round
          case rel => exact ⟨k + 1, _, by omega, by go_num, rfl⟩
          case measure => simp [intOf]; omega
        · have hx' : (1048576 : Int) ≤ x := by omega
          go_wp2
          go_ret
          exact ⟨⟨_, rfl⟩, rfl⟩
      · have hlt' : l.length ≤ k := by omega
        go_wp2
        go_ret
        exact ⟨⟨_, rfl⟩, rfl⟩

theorem cell0_new (w : World) (v0 v1 : Value) (T : TypeId) : (w.alloc (.cells #[v0, v1] T)).cell? ⟨w.heap.size, 0, none⟩ = some v0 := by
  unfold World.cell?; rw [(MapKept.heap_alloc w _).1]; rfl
/-- What heavy answers. -/
def HeavyR (l : List Ky) (x : ByteArray) (e : Ending) : Prop := ∃ r : Bool, e = .returned (.bool r) ∧ (r = false → l.length ≤ 200 ∧ x.size ≤ 3000)
theorem heavy_any (v : Value) (x : ByteArray) (l : List Ky) (w : World) (h : KS w v l) (hl : l.length ≤ maxLen) :
    Calls Try.prog 6 #[.agg #[v, .string x]] w fun e w' => HeavyR l x e ∧ Below w.heap.size w w' := by
  have hc := fun W (hW : KS W v l) => weight_any v l W hW hl
  have h1 : KS (w.alloc (.cells #[v, .string x] 24)) v l := h.below ((Below.refl _ _).alloc (Nat.le_refl _) _)
  obtain ⟨a, cap, rfl, h⟩ := h
  go_enter Try.func6, Try.ntmps6
  go_wp2_with (go_at_call 25; refine (hc _ h1).mono ?_; rintro e w' ⟨⟨n, rfl⟩, rfl⟩)
  all_goals
    go_ret
    refine ⟨⟨_, rfl, ?_⟩, (Below.refl _ _).alloc (Nat.le_refl _) _⟩
    simp
    try omega
end Go.Proofs.Ytkfhfennelckfaa
