/- The law's ask in its box, all along a law's walk. -/
import Derived.Test.YtkfhfennelckfaaKFn
namespace Go.Proofs.Ytkfhfennelckfaa
open Go.RowKit
set_option linter.unusedVariables false

/-- What holds of the world all along: nothing old has turned; the ask lies in its box; its keys lie where they lay. -/
structure AskRel (w W : World) (v : Value) (x : ByteArray) (l : List Ky) : Prop where
  bel : Below w.heap.size w W
  siz : w.heap.size < W.heap.size
  c0 : W.cell? ⟨w.heap.size, 0, none⟩ = some v
  c1 : W.cell? ⟨w.heap.size, 1, none⟩ = some (.string x)
  ks : KS W v l
theorem AskRel.step {w W W' : World} {v : Value} {x : ByteArray} {l : List Ky} (h : AskRel w W v x l) (hw : Below W.heap.size W W') : AskRel w W' v x l :=
  ⟨h.bel.trans (hw.mono h.bel.size), Nat.lt_of_lt_of_le h.siz hw.size, (hw.cell (p := ⟨w.heap.size, 0, none⟩) h.siz).trans h.c0, (hw.cell (p := ⟨w.heap.size, 1, none⟩) h.siz).trans h.c1, h.ks.below hw⟩
theorem AskRel.start (w : World) (v : Value) (x : ByteArray) (l : List Ky) (T : TypeId) (h : KS w v l) : AskRel w (w.alloc (.cells #[v, .string x] T)) v x l := by
  refine ⟨(Below.refl _ _).alloc (Nat.le_refl _) _, by simp, ?_, ?_, h.below ((Below.refl _ _).alloc (Nat.le_refl _) _)⟩
  · unfold World.cell?; rw [(MapKept.heap_alloc w _).1]; rfl
  · unfold World.cell?; rw [(MapKept.heap_alloc w _).1]; rfl
theorem KS.at {w : World} {b off n cap : Nat} {l : List Ky} (h : KS w (.slice (some ⟨b, off, none⟩) n cap) l) {i : Nat} {y : Ky} (hy : l[i]? = some y) :
    w.cell? ⟨b, off + i * 2, none⟩ = some (.int .i64 y.1) ∧ w.cell? ⟨b, off + i * 2 + 1, none⟩ = some (.string y.2) := by
  obtain ⟨a, cap', e, h⟩ := h
  rcases h with rfl | ⟨b', off', rfl, _, hat⟩
  · simp at hy
  · injection e with e1 e2 e3
    injection e1 with e1
    injection e1 with e1 e4
    subst e1 e4
    exact hat i y hy
theorem KS.shape {w : World} {v : Value} {l : List Ky} (h : KS w v l) : (∃ a cap, v = .slice a 0 cap ∧ l = []) ∨ ∃ b off cap, v = .slice (some ⟨b, off, none⟩) l.length cap ∧ b < w.heap.size ∧ KeysAt w b off l := by
  obtain ⟨a, cap, rfl, h⟩ := h
  rcases h with rfl | ⟨b, off, rfl, hb, hat⟩
  · exact .inl ⟨a, cap, rfl, rfl⟩
  · exact .inr ⟨b, off, cap, rfl, hb, hat⟩
theorem below_alloc (W : World) (o : Obj) : Below W.heap.size W (W.alloc o) := (Below.refl _ _).alloc (Nat.le_refl _) _
end Go.Proofs.Ytkfhfennelckfaa
