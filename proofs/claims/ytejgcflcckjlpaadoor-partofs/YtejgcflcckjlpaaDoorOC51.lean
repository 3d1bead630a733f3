/- Contracts: frame.Bytes, frame.Take, and the page's own. -/
import Derived.Test.YtejgcflcckjlpaaDoorOC36
import Derived.Test.YtejgcflcckjlpaaDoorOC50
namespace Go.Proofs.YtejgcflcckjlpaaDoor
open Go.RowKit
set_option linter.unusedVariables false
set_option maxRecDepth 100000

theorem bel_next {w w1 w2 : World} (h : Below w.heap.size w w1) (h2 : Below w1.heap.size w1 w2) : Below w.heap.size w w2 := h.trans (h2.mono h.size)
theorem bel_drewN {w w1 : World} (h : Below w.heap.size w w1) (q : Nat) : Below w.heap.size w (w1.drewN q) := bel_next h (below_draws w1 q)
theorem sum5_any (s : ByteArray) (w : World) (hs : s.size ≤ maxLen) (h : Halves w) : Calls Tryd.prog 53 #[.string s] w fun e w' => e = .returned (.int .u32 (fSum s)) ∧ w' = w := sum_any s w hs h
theorem sumOf_any (a s : ByteArray) (w : World) (hs : a.size + s.size ≤ 100000) (h : Halves w) :
    Calls Tryd.prog 47 #[.string a, .string s] w fun e w' => e = .returned (.int .u32 (fSum (a ++ s))) ∧ w' = w := by
  have hadd : ∀ W, (Op.stringOp .add a s).run Tryd.prog W = .ok (.string (a ++ s)) W := fun W => run_string_add_sum W _ _ (by omega)
  go_enter Tryd.func47, Tryd.ntmps47
  go_wp2_with (go_at_call 53; refine (sum5_any _ _ (by rw [ByteArray.size_append]; unfold maxLen; omega) h).mono ?_; rintro e w' ⟨rfl, rfl⟩)
  go_ret
  exact ⟨rfl, rfl⟩

theorem fbytes_big (s : ByteArray) (w : World) (hs : 32768 < s.size) :
    Calls Tryd.prog 35 #[.string s] w fun e w' => e = .returned (.tuple #[.string ⟨#[]⟩, .int .i64 2]) ∧ w' = w := by
  have hd : decide (32768 < (s.size : Int)) = true := decide_eq_true (by omega)
  go_enter Tryd.func35, Tryd.ntmps35
  go_wp2
  go_ret2
  exact ⟨rfl, rfl⟩

set_option maxRecDepth 100000 in
theorem fbytes_ok (s : ByteArray) (w : World) (hs : s.size ≤ 32768) (h : Halves w) :
    Calls Tryd.prog 35 #[.string s] w fun e w' => e = .returned (.tuple #[.string (frameOf s), .int .i64 0]) ∧ Below w.heap.size w w' := by
  have hd : decide (32768 < (s.size : Int)) = false := decide_eq_false (by omega)
  have l4 := four_size (s.size : Int)
  have hl := fSum_lt (four (s.size : Int) ++ s)
  have l8 := four_size (fSum (four (s.size : Int) ++ s))
  have hadd : ∀ W, (Op.stringOp .add (four (s.size : Int)) (four (fSum (four (s.size : Int) ++ s)))).run Tryd.prog W = .ok (.string (four (s.size : Int) ++ four (fSum (four (s.size : Int) ++ s)))) W := fun W => run_string_add_sum W _ _ (by omega)
  have hadd2 : ∀ W, (Op.stringOp .add (four (s.size : Int) ++ four (fSum (four (s.size : Int) ++ s))) s).run Tryd.prog W = .ok (.string (four (s.size : Int) ++ four (fSum (four (s.size : Int) ++ s)) ++ s)) W := fun W => run_string_add_sum W _ _ (by rw [ByteArray.size_append]; omega)
  have h4 := fun W => four_any (s.size : Int) W (by omega) (by omega)
  have h5 := fun W (hW : Halves W) => sumOf_any (four (s.size : Int)) s W (by omega) hW
  have h6 := fun W => four_any (fSum (four (s.size : Int) ++ s)) W hl.1 hl.2
  unfold frameOf
  go_enter Tryd.func35, Tryd.ntmps35
  go_wp2_with fail
  refine (h4 _).mono ?_
  rintro e w1 ⟨rfl, hb1⟩
  have hh := h.below hb1 h.pos
  clear h4
  go_wp2_with fail
  refine (h5 _ hh).mono ?_
  rintro e w2 ⟨rfl, hw2⟩
  subst hw2
  clear h5
  go_wp2_with fail
  refine (h6 _).mono ?_
  rintro e w2 ⟨rfl, hb2⟩
  clear h6
  go_wp2_with fail
  go_ret2
  exact ⟨rfl, bel_next hb1 hb2⟩

/-- What Take answers, of a place. -/
def TakePost (s : ByteArray) (w : World) (e : Ending) (w' : World) : Prop := e = .returned (.tuple #[.string (fTake s).1, .int .i64 (fTake s).2.1, .int .i64 (fTake s).2.2]) ∧ Below w.heap.size w w'
theorem take_of {s t : ByteArray} {j e : Int} (h : fTake s = (t, j, e)) (w w' : World) (hb : Below w.heap.size w w') : TakePost s w (.returned (.tuple #[.string t, .int .i64 j, .int .i64 e])) w' := by
  unfold TakePost; rw [h]; exact ⟨rfl, hb⟩

end Go.Proofs.YtejgcflcckjlpaaDoor
