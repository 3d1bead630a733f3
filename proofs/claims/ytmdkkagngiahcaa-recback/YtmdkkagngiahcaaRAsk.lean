/- The law's ask in its box, all along a law's walk; wakes. -/
import Derived.Test.YtmdkkagngiahcaaRAll
namespace Go.Proofs.Ytmdkkagngiahcaa
open Go.RowKit
set_option linter.unusedVariables false

set_option maxRecDepth 100000 in
theorem wakes_any (w : World) : Calls Try.prog 13 #[] w fun e w' => e = .returned (.bool true) ∧ Below w.heap.size w w' := by
  have hok : Okr ((1, ⟨#[120]⟩), 2) := ⟨by decide, by decide, by decide, by decide, by decide⟩
  have hby := fun W => recbytes_ok ((1, ⟨#[120]⟩), 2) W hok
  have hlen := rBytes_len ((1, ⟨#[120]⟩), 2) hok.txt
  have hall := fun W => recall_any (rBytes ((1, ⟨#[120]⟩), 2)) W (by unfold maxLen; omega)
  have hA : allOf (rBytes ((1, ⟨#[120]⟩), 2)) = ([((1, ⟨#[120]⟩), 2)], 0) := by
    have := allOf_cat [((1, ⟨#[120]⟩), 2)] (by decide) (fun x hx => by simp at hx; subst hx; exact hok)
    simp only [cat] at this
    rwa [app_nil] at this
  simp only [AllPost, hA] at hall
  simp only at hby
  generalize rBytes ((1, ⟨#[120]⟩), 2) = sb at hby hall
  go_enter Try.func13, Try.ntmps13
  go_wp2_with fail
  refine (hby _).mono ?_
  rintro e w1 ⟨rfl, hb1⟩
  go_wp2_with fail
  refine (hall _).mono ?_
  rintro e w2 ⟨v, rfl, hown, hb2⟩
  rcases (RS.own hown).shape with ⟨a, cap, rfl, h0⟩ | ⟨b, off, cap, rfl, hb, hat⟩
  · simp at h0
  · obtain ⟨c0, c1, c2⟩ := hat 0 _ rfl
    simp only [Nat.zero_mul, Nat.add_zero] at c0 c1 c2
    go_wp2_with (go_at_call 10; refine (num_any _ _).mono ?_; rintro e w' ⟨rfl, rfl⟩)
    go_ret
    exact ⟨rfl, bel_next hb1 hb2⟩

/-- What holds of the world all along: nothing old has turned; the ask lies in its box; its records lie where they lay. -/
structure AskRel (w W : World) (v : Value) (x : ByteArray) (l : List Rc) : Prop where
  bel : Below w.heap.size w W
  siz : w.heap.size < W.heap.size
  c0 : W.cell? ⟨w.heap.size, 0, none⟩ = some v
  c1 : W.cell? ⟨w.heap.size, 1, none⟩ = some (.string x)
  rs : RS W v l
theorem AskRel.step {w W W' : World} {v : Value} {x : ByteArray} {l : List Rc} (h : AskRel w W v x l) (hw : Below W.heap.size W W') : AskRel w W' v x l :=
  ⟨bel_next h.bel hw, Nat.lt_of_lt_of_le h.siz hw.size, (hw.cell (p := ⟨w.heap.size, 0, none⟩) h.siz).trans h.c0, (hw.cell (p := ⟨w.heap.size, 1, none⟩) h.siz).trans h.c1, h.rs.below hw⟩
theorem AskRel.start (w : World) (v : Value) (x : ByteArray) (l : List Rc) (T : TypeId) (h : RS w v l) : AskRel w (w.alloc (.cells #[v, .string x] T)) v x l := by
  refine ⟨bel_new _ _, by simp, ?_, ?_, h.below (bel_new _ _)⟩
  · unfold World.cell?; rw [(MapKept.heap_alloc w _).1]; rfl
  · unfold World.cell?; rw [(MapKept.heap_alloc w _).1]; rfl
end Go.Proofs.Ytmdkkagngiahcaa
