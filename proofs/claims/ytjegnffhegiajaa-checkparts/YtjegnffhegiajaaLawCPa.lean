/- CheckParts: programs that are wrong; two parts. -/
import Derived.Test.YtjegnffhegiajaaCLaw
import Derived.Test.YtjegnffhegiajaaAskC
namespace Go.Proofs.Ytjegnffhegiajaa
open Go.RowKit
set_option linter.unusedVariables false
set_option maxRecDepth 100000

theorem within_any (w : World) : Calls Try.prog 12 #[.int .i64 3, .int .i64 2] w fun e w' => e = .returned (.int .i64 1) ∧ w' = w := by
  go_enter Try.func12, Try.ntmps12
  go_wp2
  go_ret
  exact ⟨rfl, rfl⟩
/-- Two parts that check each by itself, and the whole. -/
theorem parts_any {f : Fo} {k : Nat} (hm : May f) (hx : nE (f.take k) = 0) (hy : nE (f.drop k) = 0) :
    (nL (f.take k) + nP (f.drop k) ≤ 16 → needOut f = (nL (f.take k) + nL (f.drop k), max (nP (f.take k)) (nL (f.take k) + nP (f.drop k)), 0)) ∧ (16 < nL (f.take k) + nP (f.drop k) → needOut f = (0, 0, 9)) := by
  have cx := nE_cases (f.take k)
  have cy := nE_cases (f.drop k)
  have h1 : need0 (f.take k) = some (nL (f.take k), nP (f.take k)) := by rcases cx with h | h | h <;> simp_all
  have h2 : need0 (f.drop k) = some (nL (f.drop k), nP (f.drop k)) := by rcases cy with h | h | h <;> simp_all
  have h3 := need0_app h1 h2
  rw [Fo.take_drop] at h3
  exact ⟨fun h => needOut_some hm (h3.1 h), fun h => needOut_none hm (h3.2 h)⟩
/-! ### The programs that are wrong -/
abbrev cs (ks : List Ro) : Obj := .cells (flatO ks).toArray 38
abbrev slc (b n : Nat) : Value := .slice (some ⟨b, 0, none⟩) n n
def wrongW (W : World) : World :=
  (((((((W.alloc (cs [op0 5])).alloc (cs [op0 4])).alloc (cs [op0 4, (28, 0, slc (W.heap.size + 1) 1)])).alloc (cs [op0 27, op0 4])).alloc (cs [op0 4, op0 4, (28, 0, slc (W.heap.size + 1 + 1 + 1) 2)])).alloc (cs [op0 26])).alloc (cs [op0 4, op0 30])).alloc
    (.cells #[slc W.heap.size 1, slc (W.heap.size + 1 + 1) 2, slc (W.heap.size + 1 + 1 + 1 + 1) 3, slc (W.heap.size + 1 + 1 + 1 + 1 + 1) 1, slc (W.heap.size + 1 + 1 + 1 + 1 + 1 + 1) 2] 23)
theorem wrong_bel (W : World) : Below W.heap.size W (wrongW W) ∧ (wrongW W).heap.size = W.heap.size + 8 := by
  unfold wrongW
  refine ⟨?_, by simp⟩
  exact (((((((((Below.refl _ _).alloc (by simp) _).alloc (by simp) _).alloc (by simp; omega) _).alloc (by simp; omega) _).alloc (by simp; omega) _).alloc (by simp; omega) _).alloc (by simp; omega) _).alloc (by simp; omega) _)
theorem new_at {w : World} {b : Nat} {o : Obj} (h : w.heap.size = b) : (w.alloc o).heap[b]? = some o := by subst h; exact heap_alloc_new w o
theorem wrong_heap (W : World) : (wrongW W).heap[W.heap.size]? = some (cs [op0 5]) ∧ (wrongW W).heap[W.heap.size + 1]? = some (cs [op0 4]) ∧ (wrongW W).heap[W.heap.size + 1 + 1]? = some (cs [op0 4, (28, 0, slc (W.heap.size + 1) 1)]) ∧
    (wrongW W).heap[W.heap.size + 1 + 1 + 1]? = some (cs [op0 27, op0 4]) ∧ (wrongW W).heap[W.heap.size + 1 + 1 + 1 + 1]? = some (cs [op0 4, op0 4, (28, 0, slc (W.heap.size + 1 + 1 + 1) 2)]) ∧ (wrongW W).heap[W.heap.size + 1 + 1 + 1 + 1 + 1]? = some (cs [op0 26]) ∧
    (wrongW W).heap[W.heap.size + 1 + 1 + 1 + 1 + 1 + 1]? = some (cs [op0 4, op0 30]) ∧ (wrongW W).heap[W.heap.size + 1 + 1 + 1 + 1 + 1 + 1 + 1]? = some (.cells #[slc W.heap.size 1, slc (W.heap.size + 1 + 1) 2, slc (W.heap.size + 1 + 1 + 1 + 1) 3, slc (W.heap.size + 1 + 1 + 1 + 1 + 1) 1, slc (W.heap.size + 1 + 1 + 1 + 1 + 1 + 1) 2] 23) := by
  unfold wrongW
  refine ⟨?_, ?_, ?_, ?_, ?_, ?_, ?_, ?_⟩
  all_goals
    repeat rw [Below.heap_alloc _ _ _ (by first | (simp; done) | (simp; omega))]
    exact new_at (by first | (simp; done) | (simp; omega))
abbrev o0 (k : Int) (r : Fo) : Fo := .cons k 0 .nil r
theorem wrong_at {W X : World} (hb : Below (wrongW W).heap.size (wrongW W) X) (q : Nat) (hq : q < 5) :
    ∃ a n f, X.cell? ⟨W.heap.size + 1 + 1 + 1 + 1 + 1 + 1 + 1, q, none⟩ = some (.slice (some a) n n) ∧ FS QA X (.slice (some a) n n) f ∧ f.len ≤ 3518437208780 ∧ WfB f ∧ needOut f = (0, 0, 9) := by
  obtain ⟨h0, h1, h2, h3, h4, h5, h6, h7⟩ := wrong_heap W
  have hs := (wrong_bel W).2
  have hc : ∀ v, (wrongW W).cell? ⟨W.heap.size + 1 + 1 + 1 + 1 + 1 + 1 + 1, q, none⟩ = some v → X.cell? ⟨W.heap.size + 1 + 1 + 1 + 1 + 1 + 1 + 1, q, none⟩ = some v := fun v h => (hb.cell (p := ⟨_, q, none⟩) (by show W.heap.size + 1 + 1 + 1 + 1 + 1 + 1 + 1 < _; omega)).trans h
  have f1 : FS QA (wrongW W) (slc (W.heap.size + 1) 1) (o0 4 .nil) := fs_new (l := [op0 4]) ⟨rfl, rfl, FS.nil _, trivial⟩ h1
  have f3 : FS QA (wrongW W) (slc (W.heap.size + 1 + 1 + 1) 2) (o0 27 (o0 4 .nil)) := fs_new (l := [op0 27, op0 4]) ⟨rfl, rfl, FS.nil _, rfl, rfl, FS.nil _, trivial⟩ h3
  have f0 : FS QA (wrongW W) (slc W.heap.size 1) (o0 5 .nil) := fs_new (l := [op0 5]) ⟨rfl, rfl, FS.nil _, trivial⟩ h0
  have f2 : FS QA (wrongW W) (slc (W.heap.size + 1 + 1) 2) (o0 4 (.cons 28 0 (o0 4 .nil) .nil)) := fs_new (l := [op0 4, (28, 0, slc (W.heap.size + 1) 1)]) ⟨rfl, rfl, FS.nil _, rfl, rfl, f1, trivial⟩ h2
  have f4 : FS QA (wrongW W) (slc (W.heap.size + 1 + 1 + 1 + 1) 3) (o0 4 (o0 4 (.cons 28 0 (o0 27 (o0 4 .nil)) .nil))) := fs_new (l := [op0 4, op0 4, (28, 0, slc (W.heap.size + 1 + 1 + 1) 2)]) ⟨rfl, rfl, FS.nil _, rfl, rfl, FS.nil _, rfl, rfl, f3, trivial⟩ h4
  have f5 : FS QA (wrongW W) (slc (W.heap.size + 1 + 1 + 1 + 1 + 1) 1) (o0 26 .nil) := fs_new (l := [op0 26]) ⟨rfl, rfl, FS.nil _, trivial⟩ h5
  have f6 : FS QA (wrongW W) (slc (W.heap.size + 1 + 1 + 1 + 1 + 1 + 1) 2) (o0 4 (o0 30 .nil)) := fs_new (l := [op0 4, op0 30]) ⟨rfl, rfl, FS.nil _, rfl, rfl, FS.nil _, trivial⟩ h6
  match q, hq with
  | 0, _ => exact ⟨_, _, _, hc _ (by simp [World.cell?, h7]), f0.below hb, by decide, ⟨by decide, trivial, trivial⟩, by decide⟩
  | 1, _ => exact ⟨_, _, _, hc _ (by simp [World.cell?, h7]), f2.below hb, by decide, ⟨by decide, trivial, by decide, ⟨by decide, trivial, trivial⟩, trivial⟩, by decide⟩
  | 2, _ => exact ⟨_, _, _, hc _ (by simp [World.cell?, h7]), f4.below hb, by decide, ⟨by decide, trivial, by decide, trivial, by decide, ⟨by decide, trivial, by decide, trivial, trivial⟩, trivial⟩, by decide⟩
  | 3, _ => exact ⟨_, _, _, hc _ (by simp [World.cell?, h7]), f5.below hb, by decide, ⟨by decide, trivial, trivial⟩, by decide⟩
  | 4, _ => exact ⟨_, _, _, hc _ (by simp [World.cell?, h7]), f6.below hb, by decide, ⟨by decide, trivial, by decide, trivial, trivial⟩, by decide⟩
end Go.Proofs.Ytjegnffhegiajaa
