/- What holds all along a law of stage 6. -/
import Derived.Test.YtaaijlkjbmpegaaDoorLAsk
import Derived.Test.YtaaijlkjbmpegaaDoorLTextF
import Derived.Test.YtaaijlkjbmpegaaDoorLEqO
namespace Go.Proofs.YtaaijlkjbmpegaaDoor
open Go.RowKit Go.Shelf
set_option linter.unusedVariables false
set_option maxRecDepth 100000

/-- All along the law: the ask's box, and nothing that was there has turned. -/
structure AskRel (vs vl : Value) (l : List ByteArray) (f : Fo) (w wr : World) : Prop where
  bel : Below (w.alloc (.cells #[vs, vl] 25)).heap.size (w.alloc (.cells #[vs, vl] 25)) wr
  ss : SS wr vs l
  fs : FS QA wr vl f
  env : Env wr
theorem AskRel.start {vs vl : Value} {l : List ByteArray} {f : Fo} {w : World} (hs : SS w vs l) (hf : FS QA w vl f) (hE : Env w) : AskRel vs vl l f w (w.alloc (.cells #[vs, vl] 25)) := by
  have hb := (Below.refl w.heap.size w).alloc (Nat.le_refl _) (.cells #[vs, vl] 25)
  exact ⟨Below.refl _ _, hs.below hb, hf.below hb, hE.low hb⟩
theorem AskRel.call {vs vl : Value} {l : List ByteArray} {f : Fo} {w wr w' : World} (h : AskRel vs vl l f w wr) (hb : Below wr.heap.size wr w') : AskRel vs vl l f w w' :=
  ⟨h.bel.trans (hb.mono h.bel.size), h.ss.below hb, h.fs.below hb, h.env.low hb⟩
theorem AskRel.out {vs vl : Value} {l : List ByteArray} {f : Fo} {w wr : World} (h : AskRel vs vl l f w wr) : Below w.heap.size w wr :=
  ((Below.refl w.heap.size w).alloc (Nat.le_refl _) _).trans (h.bel.mono (by simp))
theorem AskRel.cells {vs vl : Value} {l : List ByteArray} {f : Fo} {w wr : World} (h : AskRel vs vl l f w wr) : wr.cell? ⟨w.heap.size, 0, none⟩ = some vs ∧ wr.cell? ⟨w.heap.size, 1, none⟩ = some vl := by
  have e := h.bel.block w.heap.size (by simp)
  have hn : (w.alloc (.cells #[vs, vl] 25)).heap[w.heap.size]? = some (.cells #[vs, vl] 25 (0, 0)) := heap_alloc_new w _
  rw [hn] at e
  constructor <;> simp [World.cell?, e]
theorem AskRel.lt {vs vl : Value} {l : List ByteArray} {f : Fo} {w wr : World} (h : AskRel vs vl l f w wr) : w.heap.size < wr.heap.size := by
  have := h.bel.size
  simp at this
  omega
theorem Drawn.low {w wr : World} (h : Drawn w wr) : Below w.heap.size w wr := h.below _

/-! ### Programs and their texts -/
theorem prog_ok {s : ByteArray} {g : Fo} {ws : List (List UInt8)} {m : Nat} (h : Prog s (.ok g ws m)) : May g ∧ WfN g ∧ g.len ≤ 3518437208780 ∧ WfB g := by
  unfold Prog at h
  split at h
  · simp at h
  · obtain ⟨fu, h⟩ := h
    obtain ⟨h1, h2, h3, h4, _⟩ := read_ok fu 0 _ 0 g ws m h (fun x hx => (splitG_words _ [] (fun c hc => by cases hc) x hx).1) (by omega) (by omega)
    obtain ⟨h5, h6⟩ := WfB.of_tot g 0 h1 (by omega)
    exact ⟨⟨h1, by omega⟩, h2, by omega, h6⟩
theorem prog_text {g : Fo} (h : May g) (hw : WfN g) (hl : (textOf g).length ≤ 512) : Prog (ba (textOf g)) (.ok g [] (tot g)) := by
  unfold Prog
  rw [if_neg (by rw [← L_len, L_ba]; omega), L_ba, split_text0 h.1]
  exact parse_prog h.1 hw h.2
theorem prog_text2 {g : Fo} (h : May g) (hw : WfN g) (hl : (textOf g).length < 508) : Prog ((⟨#[32, 10]⟩ : ByteArray) ++ ba (textOf g) ++ ⟨#[10, 32]⟩) (.ok g [] (tot g)) := by
  unfold Prog
  have hL : L ((⟨#[32, 10]⟩ : ByteArray) ++ ba (textOf g) ++ ⟨#[10, 32]⟩) = [32, 10] ++ textOf g ++ [10, 32] := by rw [L_app, L_app, L_ba]
  rw [if_neg (by rw [← L_len, hL]; simp; omega), hL, split_text2 h.1]
  exact parse_prog h.1 hw h.2
end Go.Proofs.YtaaijlkjbmpegaaDoor
