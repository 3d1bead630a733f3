/- What grows at one block alone; words as a text has them; what Parse tells. -/
import Derived.Test.YtjegnffhegiajaaLBox
import Derived.Test.YtjegnffhegiajaaLOwn
import Derived.Test.YtjegnffhegiajaaLSplit
namespace Go.Proofs.Ytjegnffhegiajaa
open Go.RowKit
set_option linter.unusedVariables false
set_option maxRecDepth 100000

theorem grownBy_set (w : World) (g q : Nat) (u : Value) : w.grownBy (w.setCell ⟨g, q, none⟩ u) (some g) :=
  ⟨rfl, rfl, rfl, by simp [World.setCell], fun k hk hne => Below.heap_setCell _ _ _ _ (fun e => hne (by rw [e]))⟩
theorem grownBy_below {w w' : World} (h : Below w.heap.size w w') (r : Option Nat) : w.grownBy w' r := ⟨h.os, h.tape, h.output, h.size, fun k hk _ => h.block k hk⟩

/-- Words as a text has them. -/
def WW (ws : List (List UInt8)) : Prop := ws.length ≤ 600 ∧ ∀ x ∈ ws, x ≠ [] ∧ x.length ≤ 512
theorem WW.tail {x : List UInt8} {ws : List (List UInt8)} (h : WW (x :: ws)) : WW ws := ⟨by have := h.1; simp at this; omega, fun y hy => h.2 y (by simp [hy])⟩
theorem WW.suffix {u ws : List (List UInt8)} (h : WW (u ++ ws)) : WW ws := ⟨by have := h.1; simp at this; omega, fun y hy => h.2 y (by simp [hy])⟩
theorem gset {w w1 : World} {r : Option Nat} (h : w.grownBy w1 r) {b q : Nat} (hb : w.heap.size ≤ b) (u : Value) : w.grownBy (w1.setCell ⟨b, q, none⟩ u) r :=
  ⟨h.os, h.tape, h.output, by simpa [World.setCell] using h.size, fun k hk hne => (Below.heap_setCell _ _ _ _ (by show k ≠ b; omega)).trans (h.block k hk hne)⟩
theorem gsetR {w w1 : World} {R q : Nat} (h : w.grownBy w1 (some R)) (u : Value) : w.grownBy (w1.setCell ⟨R, q, none⟩ u) (some R) := h.trans (grownBy_set _ _ _ _)
theorem galloc {w w1 : World} {r : Option Nat} (h : w.grownBy w1 r) (o : Obj) : w.grownBy (w1.alloc o) r := h.trans (World.grownBy_alloc _ _ _)
theorem gbel {w w1 w2 : World} {r : Option Nat} (h : w.grownBy w1 r) (hb : Below w1.heap.size w1 w2) : w.grownBy w2 r := h.trans (grownBy_below hb r)
theorem hidR {p : Prop} (h : p) : Hid p := h
theorem BlkO.set {W : World} {b b' q : Nat} {k n : Int} {v : Value} (h : BlkO W b k n v) (hne : b ≠ b') (u : Value) : BlkO (W.setCell ⟨b', q, none⟩ u) b k n v := by
  unfold BlkO
  rw [Below.heap_setCell _ _ _ _ hne]
  exact h
theorem BlkO.grown {W W' : World} {b R : Nat} {k n : Int} {v : Value} (h : BlkO W b k n v) (hg : W.grownBy W' (some R)) (hne : b ≠ R) : BlkO W' b k n v := by
  unfold BlkO
  rw [hg.block b h.lt (fun e => hne (by injection e))]
  exact h
theorem ww_split (s : ByteArray) (hs : s.size ≤ 512) : WW (splitG [] (L s)) := by
  have hl := splitG_len (L s) []
  simp only [if_true, L_len] at hl
  refine ⟨by omega, fun x hx => ⟨(splitG_words _ [] (fun c hc => by cases hc) x hx).1, ?_⟩⟩
  have : ∀ (l acc : List UInt8), ∀ x ∈ splitG acc l, x.length ≤ acc.length + l.length := by
    intro l
    induction l with
    | nil => intro acc x hx; simp only [splitG] at hx; split at hx <;> simp_all
    | cons c r ih =>
      intro acc x hx
      rw [splitG] at hx
      split at hx
      · split at hx
        · have := ih [] x hx; simp at this ⊢; omega
        · rcases List.mem_cons.1 hx with rfl | hx
          · simp
          · have := ih [] x hx; simp at this ⊢; omega
      · have := ih _ x hx; simp at this ⊢; omega
  have := this (L s) [] x hx
  rw [L_len] at this
  simp at this
  omega
/-- What Parse tells. -/
def PRes (w w' : World) (e : Ending) : Rs → Prop
  | .err c => e = .returned (.tuple #[.slice none 0 0, .int .i64 c]) ∧ c ≠ 0
  | .ok f _ _ => ∃ v, e = .returned (.tuple #[v, .int .i64 0]) ∧ OwnF w.heap.size w' v f
/-- Which program a text is. -/
def Prog (s : ByteArray) (r : Rs) : Prop := if 512 < s.size then r = .err 2 else PL 0 (splitG [] (L s)) 0 r
theorem Prog.unique {s : ByteArray} {r r' : Rs} (h : Prog s r) (h' : Prog s r') : r = r' := by
  unfold Prog at h h'
  split at h
  · rename_i hs
    rw [if_pos hs] at h'
    rw [h, h']
  · rename_i hs
    rw [if_neg hs] at h'
    exact h.unique h'
end Go.Proofs.Ytjegnffhegiajaa
