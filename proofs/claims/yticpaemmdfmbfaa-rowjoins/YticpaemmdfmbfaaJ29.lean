/- Texts laid together: KBy, WKeyF. -/
import Derived.Test.YticpaemmdfmbfaaJ6
import Derived.Test.YticpaemmdfmbfaaJ1
import Derived.Test.YticpaemmdfmbfaaJ7
import Derived.Test.YticpaemmdfmbfaaJ21
import Derived.Test.YticpaemmdfmbfaaJ9
import Derived.Deep.RegionHeld3
/- A key's bytes, and the key that bytes begin with: what Bytes and Take compute, and that they undo each other. -/
namespace Go.Proofs.Yticpaemmdfmbfaa
set_option linter.unusedVariables false
set_option maxRecDepth 100000

def kBytes (x : Ky) : ByteArray := bytesOf x.1 ++ bytesOf (x.2.size : Int) ++ x.2
def textOf (s : ByteArray) : ByteArray × Int × Int :=
  if (takeOf s).2.2 ≠ 0 then (⟨#[]⟩, 0, (takeOf s).2.2)
  else if (takeOf s).1 < 0 ∨ 64 < (takeOf s).1 then (⟨#[]⟩, 0, 2)
  else if (s.size : Int) < (takeOf s).2.1 + (takeOf s).1 then (⟨#[]⟩, 0, 6)
  else (s.extract (takeOf s).2.1.toNat ((takeOf s).2.1 + (takeOf s).1).toNat, (takeOf s).2.1 + (takeOf s).1, 0)
def kTake (s : ByteArray) : Ky × Int × Int :=
  if (takeOf s).2.2 ≠ 0 then (k0, 0, (takeOf s).2.2)
  else if (textOf (from' s (takeOf s).2.1)).2.2 ≠ 0 then (k0, 0, (textOf (from' s (takeOf s).2.1)).2.2)
  else (((takeOf s).1, (textOf (from' s (takeOf s).2.1)).1), (takeOf s).2.1 + (textOf (from' s (takeOf s).2.1)).2.1, 0)

theorem textOf_bytes (b y : ByteArray) (h : b.size ≤ 64) : textOf (bytesOf (b.size : Int) ++ (b ++ y)) = (b, (((bytesOf (b.size : Int)).size + b.size : Nat) : Int), 0) := by
  have e := take_bytes (b.size : Int) (by omega) (by omega) (b ++ y)
  unfold textOf
  rw [e]
  simp only [ne_eq, not_true_eq_false, if_false]
  rw [if_neg (by omega), if_neg (by rw [ByteArray.size_append, ByteArray.size_append]; omega)]
  have : (((bytesOf (b.size : Int)).size : Int) + (b.size : Int)).toNat = (bytesOf (b.size : Int)).size + b.size := by omega
  rw [this, Int.toNat_natCast, ext_mid]
  simp
theorem textOf_cut (b : ByteArray) (h : b.size ≤ 64) (j : Nat) (hj : j < (bytesOf (b.size : Int) ++ b).size) : textOf ((bytesOf (b.size : Int) ++ b).extract 0 j) = (⟨#[]⟩, 0, 6) := by
  rw [ByteArray.size_append] at hj
  by_cases h1 : j < (bytesOf (b.size : Int)).size
  · rw [ext_left _ _ _ (by omega)]
    unfold textOf
    rw [take_cut _ (by omega) (by omega) _ h1]
    rfl
  · rw [ext_app _ _ _ (by omega)]
    have e := take_bytes (b.size : Int) (by omega) (by omega) (b.extract 0 (j - (bytesOf (b.size : Int)).size))
    unfold textOf
    rw [e]
    simp only [ne_eq, not_true_eq_false, if_false]
    rw [if_neg (by omega), if_pos]
    rw [ByteArray.size_append, ByteArray.size_extract]
    omega
theorem kTake_bytes (x : Ky) (h : x.2.size ≤ 64) (h1 : -9223372036854775808 ≤ x.1) (h2 : x.1 ≤ 9223372036854775807) (y : ByteArray) : kTake (kBytes x ++ y) = (x, ((kBytes x).size : Int), 0) := by
  have e0 : kBytes x ++ y = bytesOf x.1 ++ (bytesOf (x.2.size : Int) ++ (x.2 ++ y)) := by unfold kBytes; simp only [app_assoc]
  have e := take_bytes x.1 h1 h2 (bytesOf (x.2.size : Int) ++ (x.2 ++ y))
  have es : (kBytes x).size = (bytesOf x.1).size + ((bytesOf (x.2.size : Int)).size + x.2.size) := by unfold kBytes; rw [ByteArray.size_append, ByteArray.size_append]; omega
  rw [es, e0]
  unfold kTake
  rw [e]
  simp only [ne_eq, not_true_eq_false, if_false]
  rw [from_app, textOf_bytes _ _ h]
  simp
theorem kTake_cut (x : Ky) (h : x.2.size ≤ 64) (h1 : -9223372036854775808 ≤ x.1) (h2 : x.1 ≤ 9223372036854775807) (j : Nat) (hj : j < (kBytes x).size) : kTake ((kBytes x).extract 0 j) = (k0, 0, 6) := by
  have e0 : kBytes x = bytesOf x.1 ++ (bytesOf (x.2.size : Int) ++ x.2) := by unfold kBytes; simp only [app_assoc]
  rw [e0] at hj ⊢
  rw [ByteArray.size_append] at hj
  by_cases h3 : j < (bytesOf x.1).size
  · rw [ext_left _ _ _ (by omega)]
    unfold kTake
    rw [take_cut _ h1 h2 _ h3]
    rfl
  · rw [ext_app _ _ _ (by omega)]
    have e := take_bytes x.1 h1 h2 ((bytesOf (x.2.size : Int) ++ x.2).extract 0 (j - (bytesOf x.1).size))
    unfold kTake
    rw [e]
    simp only [ne_eq, not_true_eq_false, if_false]
    rw [from_app, textOf_cut _ h _ (by omega)]
    rfl
end Go.Proofs.Yticpaemmdfmbfaa
/- key.Check, key.Bytes, and the page's own Key. -/
namespace Go.Proofs.Yticpaemmdfmbfaa
open Go.RowKit
set_option linter.unusedVariables false
set_option maxRecDepth 100000

theorem keepS {w W w' : World} {b o : Nat} {v : Value} (h : W.cell? ⟨b, o, none⟩ = some v ∧ Below w.heap.size w W) (hb : Below W.heap.size W w') (hlt : b < w.heap.size) : w'.cell? ⟨b, o, none⟩ = some v ∧ Below w.heap.size w w' :=
  ⟨(hb.cell (p := ⟨b, o, none⟩) (Nat.lt_of_lt_of_le hlt h.2.size)).trans h.1, h.2.trans (hb.mono h.2.size)⟩
theorem kcheck_any (x : Ky) (w : World) : Calls Try.prog 43 #[.agg #[.int .i64 x.1, .string x.2]] w fun e w' => e = .returned (.int .i64 (if x.2.size ≤ 64 then 0 else 1)) ∧ Below w.heap.size w w' := by
  obtain ⟨a, b⟩ := x
  by_cases h : b.size ≤ 64
  · have h' : decide (64 < (b.size : Int)) = false := by simp; omega
    simp only [h, if_true]
    go_enter Try.func43, Try.ntmps43
    go_wp2
    go_ret
    exact ⟨rfl, (Below.refl _ _).alloc (Nat.le_refl _) _⟩
  · have h' : decide (64 < (b.size : Int)) = true := by simp; omega
    simp only [h, if_false]
    go_enter Try.func43, Try.ntmps43
    go_wp2
    go_ret
    exact ⟨rfl, (Below.refl _ _).alloc (Nat.le_refl _) _⟩
theorem rkey_any (x : Ky) (w : World) : Calls Try.prog 46 #[.agg #[.int .i64 x.1, .string x.2]] w fun e w' => e = .returned (.bool (decide (x.2.size ≤ 64))) ∧ Below w.heap.size w w' := by
  obtain ⟨a, b⟩ := x
  have h' : decide ((b.size : Int) ≤ 64) = decide (b.size ≤ 64) := by simp; omega
  go_enter Try.func46, Try.ntmps46
  go_wp2
  go_ret
  exact ⟨by simp, (Below.refl _ _).alloc (Nat.le_refl _) _⟩
theorem keepB {w W w' : World} {a : Int} {b : ByteArray} (h : W.cell? ⟨w.heap.size, 0, none⟩ = some (.int .i64 a) ∧ W.cell? ⟨w.heap.size, 1, none⟩ = some (.string b) ∧ w.heap.size < W.heap.size ∧ Below w.heap.size w W) (hb : Below W.heap.size W w') :
    w'.cell? ⟨w.heap.size, 0, none⟩ = some (.int .i64 a) ∧ w'.cell? ⟨w.heap.size, 1, none⟩ = some (.string b) ∧ w.heap.size < w'.heap.size ∧ Below w.heap.size w w' :=
  ⟨(hb.cell (p := ⟨w.heap.size, 0, none⟩) h.2.2.1).trans h.1, (hb.cell (p := ⟨w.heap.size, 1, none⟩) h.2.2.1).trans h.2.1, Nat.lt_of_lt_of_le h.2.2.1 hb.size, h.2.2.2.trans (hb.mono h.2.2.2.size)⟩
theorem startB (w W : World) (a : Int) (b : ByteArray) (T : TypeId) (hW : Below w.heap.size w W) (hs : w.heap.size < W.heap.size) (h0 : W.cell? ⟨w.heap.size, 0, none⟩ = some (.int .i64 a)) (h1 : W.cell? ⟨w.heap.size, 1, none⟩ = some (.string b)) :
    W.drew.cell? ⟨w.heap.size, 0, none⟩ = some (.int .i64 a) ∧ W.drew.cell? ⟨w.heap.size, 1, none⟩ = some (.string b) ∧ w.heap.size < W.drew.heap.size ∧ Below w.heap.size w W.drew :=
  ⟨h0, h1, hs, hW.drew⟩
theorem boxed (w : World) (a : Int) (b : ByteArray) (T : TypeId) :
    Below w.heap.size w (w.alloc (.cells #[.int .i64 a, .string b] T)) ∧ w.heap.size < (w.alloc (.cells #[.int .i64 a, .string b] T)).heap.size ∧ (w.alloc (.cells #[.int .i64 a, .string b] T)).cell? ⟨w.heap.size, 0, none⟩ = some (.int .i64 a) ∧ (w.alloc (.cells #[.int .i64 a, .string b] T)).cell? ⟨w.heap.size, 1, none⟩ = some (.string b) :=
  ⟨(Below.refl _ _).alloc (Nat.le_refl _) _, by simp, by unfold World.cell?; rw [(MapKept.heap_alloc w _).1]; rfl, by unfold World.cell?; rw [(MapKept.heap_alloc w _).1]; rfl⟩
/-- A number that has bytes. -/
def Okn (n : Int) : Prop := -9223372036854775808 ≤ n ∧ n ≤ 9223372036854775807
theorem bytes_ok (n : Int) (w : World) (h : Okn n) : Calls Try.prog 77 #[.int .i64 n] w fun e w' => e = .returned (.string (bytesOf n)) ∧ Below w.heap.size w w' := bytes_any n w h.1 h.2
set_option maxRecDepth 100000 in
set_option maxHeartbeats 400000 in
theorem kbytes_any (x : Ky) (w : World) (h : x.2.size ≤ 64) (h1 : -9223372036854775808 ≤ x.1) (h2 : x.1 ≤ 9223372036854775807) :
    Calls Try.prog 62 #[.agg #[.int .i64 x.1, .string x.2]] w fun e w' => e = .returned (.tuple #[.string (kBytes x), .int .i64 0]) ∧ Below w.heap.size w w' := by
  obtain ⟨a, b⟩ := x
  have hc := fun W => kcheck_any (a, b) W
  have l1 := bytes_len a
  have l2 := bytes_len (b.size : Int)
  simp only at h h1 h2
  simp only [h, if_true] at hc
  have hadd : ∀ W, (Op.stringOp .add (bytesOf a) (bytesOf (b.size : Int))).run Try.prog W = .ok (.string (bytesOf a ++ bytesOf (b.size : Int))) W := fun W => run_string_add_sum W _ _ (by omega)
  have hadd2 : ∀ W, (Op.stringOp .add (bytesOf a ++ bytesOf (b.size : Int)) b).run Try.prog W = .ok (.string (bytesOf a ++ bytesOf (b.size : Int) ++ b)) W := fun W => run_string_add_sum W _ _ (by rw [ByteArray.size_append]; omega)
  have o1 : Okn a := ⟨h1, h2⟩
  have o2 : Okn (b.size : Int) := ⟨by omega, by omega⟩
  unfold kBytes
  simp only
  clear h h1 h2 l1 l2
  obtain ⟨x1, x2, x3, x4⟩ := boxed w a b 52
  go_enter Try.func62, Try.ntmps62
  go_wp2_with (go_at_call 43; refine (hc _).mono ?_; rintro e w1 ⟨rfl, hk⟩)
  have y1 := x1.trans (hk.mono x1.size)
  have y2 := Nat.lt_of_lt_of_le x2 hk.size
  have y3 := (hk.cell (p := ⟨w.heap.size, 0, none⟩) x2).trans x3
  have y4 := (hk.cell (p := ⟨w.heap.size, 1, none⟩) x2).trans x4
  clear x1 x2 x3 x4 hk
  go_region_held3 (fun W => W.cell? ⟨w.heap.size, 0, none⟩ = some (.int .i64 a) ∧ W.cell? ⟨w.heap.size, 1, none⟩ = some (.string b) ∧ w.heap.size < W.heap.size ∧ Below w.heap.size w W) (first | exact keepB (by assumption) (by assumption) | exact startB w _ a b 52 y1 y2 y3 y4)
    (first | (go_at_call 77; refine (bytes_ok _ _ (by assumption)).mono ?_; rintro e w' ⟨rfl, hb2⟩))
  obtain ⟨_, _, _, hbelW⟩ := ‹_ ∧ _ ∧ _ ∧ Below w.heap.size w _›
  go_wp2
  go_ret2
  exact ⟨rfl, hbelW⟩
theorem kbytes_bad (x : Ky) (w : World) (h : ¬ x.2.size ≤ 64) :
    Calls Try.prog 62 #[.agg #[.int .i64 x.1, .string x.2]] w fun e w' => e = .returned (.tuple #[.string ⟨#[]⟩, .int .i64 1]) ∧ Below w.heap.size w w' := by
  obtain ⟨a, b⟩ := x
  have hc := fun W => kcheck_any (a, b) W
  simp only at h
  simp only [h, if_false] at hc
  obtain ⟨x1, x2, x3, x4⟩ := boxed w a b 52
  go_enter Try.func62, Try.ntmps62
  go_wp2_with (go_at_call 43; refine (hc _).mono ?_; rintro e w1 ⟨rfl, hk⟩)
  go_ret2
  exact ⟨rfl, x1.trans (hk.mono x1.size)⟩
end Go.Proofs.Yticpaemmdfmbfaa
