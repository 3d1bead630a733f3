/- What holds all along a law over one ask of texts and ops; parts of a slice of ops. -/
import Derived.Test.YtjegnffhegiajaaLHeavy
import Derived.Test.YtjegnffhegiajaaLProg
namespace Go.Proofs.Ytjegnffhegiajaa
open Go.RowKit
set_option linter.unusedVariables false
set_option maxRecDepth 100000

/-- All along the law: the ask's box, and nothing that was there has turned. -/
structure AskC (vs vl : Value) (l : List ByteArray) (f : Fo) (w wr : World) : Prop where
  bel : Below (w.alloc (.cells #[vs, vl] 25)).heap.size (w.alloc (.cells #[vs, vl] 25)) wr
  ss : SS wr vs l
  fs : FS QA wr vl f
theorem AskC.start {vs vl : Value} {l : List ByteArray} {f : Fo} {w : World} (hs : SS w vs l) (hf : FS QA w vl f) : AskC vs vl l f w (w.alloc (.cells #[vs, vl] 25)) := by
  have hb := (Below.refl w.heap.size w).alloc (Nat.le_refl _) (.cells #[vs, vl] 25)
  exact ⟨Below.refl _ _, hs.below hb, hf.below hb⟩
theorem AskC.call {vs vl : Value} {l : List ByteArray} {f : Fo} {w wr w' : World} (h : AskC vs vl l f w wr) (hb : Below wr.heap.size wr w') : AskC vs vl l f w w' :=
  ⟨h.bel.trans (hb.mono h.bel.size), h.ss.below hb, h.fs.below hb⟩
theorem AskC.out {vs vl : Value} {l : List ByteArray} {f : Fo} {w wr : World} (h : AskC vs vl l f w wr) : Below w.heap.size w wr :=
  ((Below.refl w.heap.size w).alloc (Nat.le_refl _) _).trans (h.bel.mono (by simp))
theorem AskC.cells {vs vl : Value} {l : List ByteArray} {f : Fo} {w wr : World} (h : AskC vs vl l f w wr) : wr.cell? ⟨w.heap.size, 0, none⟩ = some vs ∧ wr.cell? ⟨w.heap.size, 1, none⟩ = some vl := by
  have e := h.bel.block w.heap.size (by simp)
  have hn : (w.alloc (.cells #[vs, vl] 25)).heap[w.heap.size]? = some (.cells #[vs, vl] 25 (0, 0)) := heap_alloc_new w _
  rw [hn] at e
  constructor <;> simp [World.cell?, e]
theorem AskC.lt {vs vl : Value} {l : List ByteArray} {f : Fo} {w wr : World} (h : AskC vs vl l f w wr) : w.heap.size < wr.heap.size := by
  have := h.bel.size
  simp at this
  omega

/-! ### Parts of ops -/
theorem Fo.drop_len : ∀ (i : Nat) (f : Fo), (f.drop i).len = f.len - i
  | 0, f => by simp [Fo.drop]
  | i + 1, .nil => by simp [Fo.drop, Fo.len]
  | i + 1, .cons k n b r => by simp only [Fo.drop, Fo.len]; rw [Fo.drop_len i r]; omega
theorem WfB.take : ∀ (i : Nat) (f : Fo), WfB f → WfB (f.take i)
  | 0, .nil, h => trivial
  | 0, .cons _ _ _ _, h => trivial
  | i + 1, .nil, h => trivial
  | i + 1, .cons k n b r, h => ⟨h.1, h.2.1, WfB.take i r h.2.2⟩
theorem WfB.drop : ∀ (i : Nat) (f : Fo), WfB f → WfB (f.drop i)
  | 0, f, h => by simpa [Fo.drop] using h
  | i + 1, .nil, h => trivial
  | i + 1, .cons k n b r, h => WfB.drop i r h.2.2
theorem foAt_take {Q : World → Nat → Nat → Prop} {w : World} : ∀ (i : Nat) (f : Fo) {g o : Nat}, FoAt Q w f g o → FoAt Q w (f.take i) g o
  | 0, .nil, g, o, h => trivial
  | 0, .cons _ _ _ _, g, o, h => trivial
  | i + 1, .nil, g, o, h => trivial
  | i + 1, .cons k n b r, g, o, h => ⟨h.1, h.2.1, h.2.2.1, foAt_take i r h.2.2.2⟩
theorem Try.elemOps : Try.prog.elem 23 = 38 := by kernel_rfl
/-- The first k of a slice of ops. -/
theorem slice_to {w : World} {a : Option Addr} {n cap : Nat} {f : Fo} (h : FS QA w (.slice a n cap) f) (k : Nat) (hk : k ≤ f.len) (hc : f.len ≤ cap) :
    ∃ a', FS QA w (.slice a' k cap) (f.take k) ∧ ∀ W, (Instr.slice 23 (.slice a n cap) none (some (.int .i64 (k : Int))) none).run Try.prog W = .ok (.slice a' k cap) W := by
  have hz := Try.sizeOf38
  have he := Try.elemOps
  have hr := fun W => run_slice_h (P := Try.prog) W 23 a n cap Try.underlying23 .i64 (k : Int) (by omega) (by omega)
  refine ⟨if cap = 0 then a else a.map (·.add (0 * 3)), ?_, fun W => ?_⟩
  · obtain ⟨a0, c0, e, h⟩ := h
    injection e with e1 e2 e3
    subst e1
    refine ⟨_, cap, by rw [Fo.take_len k f hk], ?_⟩
    rcases h with rfl | ⟨g, o, rfl, hq, hat⟩
    · left; cases k <;> rfl
    · right
      refine ⟨g, o, ?_, hq, foAt_take k f hat⟩
      split <;> simp [Addr.add]
  · rw [hr, he, hz]
    simp [sliced]
/-- Those behind the first k. -/
theorem slice_from {w : World} {a : Option Addr} {n cap : Nat} {f : Fo} (h : FS QA w (.slice a n cap) f) (k : Nat) (hk : k ≤ f.len) (hc : f.len ≤ cap) :
    ∃ a', FS QA w (.slice a' (f.len - k) (cap - k)) (f.drop k) ∧ ∀ W, (Instr.slice 23 (.slice a n cap) (some (.int .i64 (k : Int))) none none).run Try.prog W = .ok (.slice a' (f.len - k) (cap - k)) W := by
  have hz := Try.sizeOf38
  have he := Try.elemOps
  have hn : n = f.len := by obtain ⟨a0, c0, e, _⟩ := h; injection e
  subst hn
  have hr := fun W => run_slice_l (P := Try.prog) W 23 a f.len cap Try.underlying23 .i64 (k : Int) (by omega) (by omega)
  refine ⟨if cap = k then a else a.map (·.add (k * 3)), ?_, fun W => ?_⟩
  · obtain ⟨a0, c0, e, h⟩ := h
    injection e with e1 e2 e3
    subst e1
    refine ⟨_, _, by rw [Fo.drop_len k f], ?_⟩
    rcases h with rfl | ⟨g, o, rfl, hq, hat⟩
    · left; cases k <;> rfl
    · by_cases hck : cap = k
      · left; exact Fo.drop_all k f (by omega)
      · right
        exact ⟨g, o + k * 3, by simp [hck, Addr.add], hq, FoAt.drop k f hat⟩
  · rw [hr, he, hz]
    simp [sliced]
end Go.Proofs.Ytjegnffhegiajaa
