/- key.Check, key.Bytes, and the page's own Key. -/
import Derived.Test.YticpaemmdfmbfaaKBy
import Derived.Test.YticpaemmdfmbfaaBytesM
import Derived.Test.YticpaemmdfmbfaaGRow
import Derived.Deep.RegionHeld3
namespace Go.Proofs.Yticpaemmdfmbfaa
open Go.RowKit
set_option linter.unusedVariables false
set_option maxRecDepth 100000

theorem keepS {w W w' : World} {b o : Nat} {v : Value} (h : W.cell? ⟨b, o, none⟩ = some v ∧ Below w.heap.size w W) (hb : Below W.heap.size W w') (hlt : b < w.heap.size) : w'.cell? ⟨b, o, none⟩ = some v ∧ Below w.heap.size w w' :=
  ⟨(hb.cell (p := ⟨b, o, none⟩) (Nat.lt_of_lt_of_le hlt h.2.size)).trans h.1, h.2.trans (hb.mono h.2.size)⟩
theorem kcheck_any (x : Ky) (w : World) : Calls Try.prog 43 #[.agg #[.int .i64 x.1, .string x.2]] w fun e w' => e = .returned (.int .i64 (if x.2.size ≤ 64 then 0 else 1)) ∧ Below w.heap.size w w' := by
  obtain ⟨a, b⟩ := x
  by_cases h : b.size ≤ 64
  · have h' : decide (64 < (b.size : Int)) = false := by simp; omega
    simp only [h, if_true]
    go_enter Try.func43, Try.ntmps43
    go_wp2
    go_ret
    exact ⟨rfl, (Below.refl _ _).alloc (Nat.le_refl _) _⟩
  · have h' : decide (64 < (b.size : Int)) = true := by simp; omega
    simp only [h, if_false]
    go_enter Try.func43, Try.ntmps43
    go_wp2
    go_ret
    exact ⟨rfl, (Below.refl _ _).alloc (Nat.le_refl _) _⟩
theorem rkey_any (x : Ky) (w : World) : Calls Try.prog 46 #[.agg #[.int .i64 x.1, .string x.2]] w fun e w' => e = .returned (.bool (decide (x.2.size ≤ 64))) ∧ Below w.heap.size w w' := by
  obtain ⟨a, b⟩ := x
  have h' : decide ((b.size : Int) ≤ 64) = decide (b.size ≤ 64) := by simp; omega
  go_enter Try.func46, Try.ntmps46
  go_wp2
  go_ret
  exact ⟨by simp, (Below.refl _ _).alloc (Nat.le_refl _) _⟩
theorem keepB {w W w' : World} {a : Int} {b : ByteArray} (h : W.cell? ⟨w.heap.size, 0, none⟩ = some (.int .i64 a) ∧ W.cell? ⟨w.heap.size, 1, none⟩ = some (.string b) ∧ w.heap.size < W.heap.size ∧ Below w.heap.size w W) (hb : Below W.heap.size W w') :
    w'.cell? ⟨w.heap.size, 0, none⟩ = some (.int .i64 a) ∧ w'.cell? ⟨w.heap.size, 1, none⟩ = some (.string b) ∧ w.heap.size < w'.heap.size ∧ Below w.heap.size w w' :=
  ⟨(hb.cell (p := ⟨w.heap.size, 0, none⟩) h.2.2.1).trans h.1, (hb.cell (p := ⟨w.heap.size, 1, none⟩) h.2.2.1).trans h.2.1, Nat.lt_of_lt_of_le h.2.2.1 hb.size, h.2.2.2.trans (hb.mono h.2.2.2.size)⟩
theorem startB (w W : World) (a : Int) (b : ByteArray) (T : TypeId) (hW : Below w.heap.size w W) (hs : w.heap.size < W.heap.size) (h0 : W.cell? ⟨w.heap.size, 0, none⟩ = some (.int .i64 a)) (h1 : W.cell? ⟨w.heap.size, 1, none⟩ = some (.string b)) :
    W.drew.cell? ⟨w.heap.size, 0, none⟩ = some (.int .i64 a) ∧ W.drew.cell? ⟨w.heap.size, 1, none⟩ = some (.string b) ∧ w.heap.size < W.drew.heap.size ∧ Below w.heap.size w W.drew :=
  ⟨h0, h1, hs, hW.drew⟩
theorem boxed (w : World) (a : Int) (b : ByteArray) (T : TypeId) :
    Below w.heap.size w (w.alloc (.cells #[.int .i64 a, .string b] T)) ∧ w.heap.size < (w.alloc (.cells #[.int .i64 a, .string b] T)).heap.size ∧ (w.alloc (.cells #[.int .i64 a, .string b] T)).cell? ⟨w.heap.size, 0, none⟩ = some (.int .i64 a) ∧ (w.alloc (.cells #[.int .i64 a, .string b] T)).cell? ⟨w.heap.size, 1, none⟩ = some (.string b) :=
  ⟨(Below.refl _ _).alloc (Nat.le_refl _) _, by simp, by unfold World.cell?; rw [(MapKept.heap_alloc w _).1]; rfl, by unfold World.cell?; rw [(MapKept.heap_alloc w _).1]; rfl⟩
/-- A number that has bytes. -/
def Okn (n : Int) : Prop := -9223372036854775808 ≤ n ∧ n ≤ 9223372036854775807
theorem bytes_ok (n : Int) (w : World) (h : Okn n) : Calls Try.prog 77 #[.int .i64 n] w fun e w' => e = .returned (.string (bytesOf n)) ∧ Below w.heap.size w w' := bytes_any n w h.1 h.2
set_option maxRecDepth 100000 in
set_option maxHeartbeats 400000 in
theorem kbytes_any (x : Ky) (w : World) (h : x.2.size ≤ 64) (h1 : -9223372036854775808 ≤ x.1) (h2 : x.1 ≤ 9223372036854775807) :
    Calls Try.prog 62 #[.agg #[.int .i64 x.1, .string x.2]] w fun e w' => e = .returned (.tuple #[.string (kBytes x), .int .i64 0]) ∧ Below w.heap.size w w' := by
  obtain ⟨a, b⟩ := x
  have hc := fun W => kcheck_any (a, b) W
  have l1 := bytes_len a
  have l2 := bytes_len (b.size : Int)
  simp only at h h1 h2
  simp only [h, if_true] at hc
  have hadd : ∀ W, (Op.stringOp .add (bytesOf a) (bytesOf (b.size : Int))).run Try.prog W = .ok (.string (bytesOf a ++ bytesOf (b.size : Int))) W := fun W => run_string_add_sum W _ _ (by omega)
  have hadd2 : ∀ W, (Op.stringOp .add (bytesOf a ++ bytesOf (b.size : Int)) b).run Try.prog W = .ok (.string (bytesOf a ++ bytesOf (b.size : Int) ++ b)) W := fun W => run_string_add_sum W _ _ (by rw [ByteArray.size_append]; omega)
  have o1 : Okn a := ⟨h1, h2⟩
  have o2 : Okn (b.size : Int) := ⟨by omega, by omega⟩
  unfold kBytes
  simp only
  clear h h1 h2 l1 l2
  obtain ⟨x1, x2, x3, x4⟩ := boxed w a b 52
  go_enter Try.func62, Try.ntmps62
  go_wp2_with (go_at_call 43; refine (hc _).mono ?_; rintro e w1 ⟨rfl, hk⟩)
  have y1 := x1.trans (hk.mono x1.size)
  have y2 := Nat.lt_of_lt_of_le x2 hk.size
  have y3 := (hk.cell (p := ⟨w.heap.size, 0, none⟩) x2).trans x3
  have y4 := (hk.cell (p := ⟨w.heap.size, 1, none⟩) x2).trans x4
  clear x1 x2 x3 x4 hk
  go_region_held3 (fun W => W.cell? ⟨w.heap.size, 0, none⟩ = some (.int .i64 a) ∧ W.cell? ⟨w.heap.size, 1, none⟩ = some (.string b) ∧ w.heap.size < W.heap.size ∧ Below w.heap.size w W) (first | exact keepB (by assumption) (by assumption) | exact startB w _ a b 52 y1 y2 y3 y4)
    (first | (go_at_call 77; refine (bytes_ok _ _ (by assumption)).mono ?_; rintro e w' ⟨rfl, hb2⟩))
  obtain ⟨_, _, _, hbelW⟩ := ‹_ ∧ _ ∧ _ ∧ Below w.heap.size w _›
  go_wp2
  go_ret2
  exact ⟨rfl, hbelW⟩
theorem kbytes_bad (x : Ky) (w : World) (h : ¬ x.2.size ≤ 64) :
    Calls Try.prog 62 #[.agg #[.int .i64 x.1, .string x.2]] w fun e w' => e = .returned (.tuple #[.string ⟨#[]⟩, .int .i64 1]) ∧ Below w.heap.size w w' := by
  obtain ⟨a, b⟩ := x
  have hc := fun W => kcheck_any (a, b) W
  simp only at h
  simp only [h, if_false] at hc
  obtain ⟨x1, x2, x3, x4⟩ := boxed w a b 52
  go_enter Try.func62, Try.ntmps62
  go_wp2_with (go_at_call 43; refine (hc _).mono ?_; rintro e w1 ⟨rfl, hk⟩)
  go_ret2
  exact ⟨rfl, x1.trans (hk.mono x1.size)⟩
end Go.Proofs.Yticpaemmdfmbfaa
