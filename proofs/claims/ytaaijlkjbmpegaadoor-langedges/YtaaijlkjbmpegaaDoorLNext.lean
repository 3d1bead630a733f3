/- A reader of words: next. -/
import Derived.Test.YtaaijlkjbmpegaaDoorLOpOf2
namespace Go.Proofs.YtaaijlkjbmpegaaDoor
open Go.RowKit Go.Shelf
set_option linter.unusedVariables false
set_option maxRecDepth 100000

/-- At block R a reader of the words ws (which lie in block G), behind m ops. -/
def RB (w : World) (R G : Nat) (ws : List (List UInt8)) (m : Nat) : Prop :=
  G ≠ R ∧ G < w.heap.size ∧ ∃ a cap o, w.heap[R]? = some (.cells #[.slice a ws.length cap, .int .i64 m] 52 (0, 0)) ∧ ws.length ≤ cap ∧ (ws = [] ∨ a = some ⟨G, o, none⟩) ∧ StrsAt w G o (ws.map ba)
theorem RB.lt {w : World} {R G m : Nat} {ws : List (List UInt8)} (h : RB w R G ws m) : R < w.heap.size := by
  obtain ⟨_, _, a, cap, o, hb, _⟩ := h
  exact (Array.getElem?_eq_some_iff.1 hb).1
/-- A reader stays where its two blocks do. -/
theorem RB.keep {w w' : World} {R G m : Nat} {ws : List (List UInt8)} (h : RB w R G ws m) (hR : w'.heap[R]? = w.heap[R]?) (hG : w'.heap[G]? = w.heap[G]?) (hs : w.heap.size ≤ w'.heap.size) : RB w' R G ws m := by
  obtain ⟨h1, h2, a, cap, o, hb, hc, ha, hst⟩ := h
  refine ⟨h1, by omega, a, cap, o, by rw [hR]; exact hb, hc, ha, fun i x hx => ?_⟩
  rw [World.cell?_of_block (a := ⟨G, o + i, none⟩) hG]
  exact hst i x hx
theorem RB.below {w w' : World} {R G m : Nat} {ws : List (List UInt8)} (h : RB w R G ws m) (hb : Below w.heap.size w w') : RB w' R G ws m := h.keep (hb.block _ h.lt) (hb.block _ h.2.1) hb.size
theorem grownBy_set (w : World) (g q : Nat) (u : Value) : w.grownBy (w.setCell ⟨g, q, none⟩ u) (some g) :=
  ⟨rfl, rfl, rfl, by simp [World.setCell], fun k hk hne => Below.heap_setCell _ _ _ _ (fun e => hne (by rw [e]))⟩
theorem grownBy_below {w w' : World} (h : Below w.heap.size w w') (r : Option Nat) : w.grownBy w' r := ⟨h.os, h.tape, h.output, h.size, fun k hk _ => h.block k hk⟩

theorem next_nil (R G m : Nat) (w : World) (h : RB w R G [] m) :
    Calls Tryd.prog 33 #[.pointer (some ⟨R, 0, none⟩)] w fun e w' => e = .returned (.tuple #[.string ⟨#[]⟩, .bool false]) ∧ w' = w := by
  obtain ⟨_, _, a, cap, o, hb, _⟩ := h
  have c0 : w.cell? ⟨R, 0, none⟩ = some (.slice a 0 cap) := by simp [World.cell?, hb]
  clear hb
  go_enter Tryd.func33, Tryd.ntmps33
  go_wp2
  go_ret2
  exact ⟨rfl, rfl⟩
theorem rb_step {w : World} {R G m o cap cap' : Nat} {x : List UInt8} {ws : List (List UInt8)} {a a' : Option Addr} (hGR : G ≠ R) (hG : G < w.heap.size) (hb : w.heap[R]? = some (.cells #[.slice a (x :: ws).length cap, .int .i64 m] 52 (0, 0)))
    (hst : StrsAt w G o ((x :: ws).map ba)) (ha : ws = [] ∨ a' = some ⟨G, o + 1, none⟩) (hc : ws.length ≤ cap') :
    w.grownBy (w.setCell ⟨R, 0, none⟩ (.slice a' ws.length cap')).drew (some R) ∧ RB (w.setCell ⟨R, 0, none⟩ (.slice a' ws.length cap')).drew R G ws m := by
  refine ⟨⟨rfl, rfl, rfl, by simp [World.setCell, World.drew], fun k hk hne => Below.heap_setCell _ _ _ _ (fun e => hne (by rw [e]))⟩, hGR, by simpa [World.setCell, World.drew] using hG, a', cap', o + 1, ?_, hc, ha, fun i y hy => ?_⟩
  · show (w.heap.modify _ _)[R]? = _
    rw [Array.getElem?_modify, hb]
    simp
  · have := hst (i + 1) y (by simpa using hy)
    have e : (w.setCell ⟨R, 0, none⟩ (.slice a' ws.length cap')).drew.cell? ⟨G, o + 1 + i, none⟩ = w.cell? ⟨G, o + 1 + i, none⟩ :=
      World.cell?_of_block (a := ⟨G, o + 1 + i, none⟩) (Below.heap_setCell _ _ _ _ hGR)
    rw [e, show o + 1 + i = o + (i + 1) by omega]
    exact this
set_option maxHeartbeats 400000 in
theorem next_cons (R G m : Nat) (x : List UInt8) (ws : List (List UInt8)) (w : World) (h : RB w R G (x :: ws) m) (hl : ws.length ≤ 1000) :
    Calls Tryd.prog 33 #[.pointer (some ⟨R, 0, none⟩)] w fun e w' => e = .returned (.tuple #[.string (ba x), .bool true]) ∧ w.grownBy w' (some R) ∧ RB w' R G ws m := by
  obtain ⟨hGR, hG, a, cap, o, hb, hc, ha, hst⟩ := h
  rcases ha with ha | rfl
  · simp at ha
  have c0 : w.cell? ⟨R, 0, none⟩ = some (.slice (some ⟨G, o, none⟩) (ws.length + 1) cap) := by simp [World.cell?, hb]
  have f0 : w.frozen? ⟨R, 0, none⟩ = false := by simp [World.frozen?, hb]
  have d0 : w.cell? ⟨G, o, none⟩ = some (.string (ba x)) := by have := hst 0 (ba x) rfl; simpa using this
  have HB : Hid (_ = _) := hb
  have HS : Hid (StrsAt w G o ((x :: ws).map ba)) := hst
  simp only [List.length_cons] at hc
  have hn0 : (((ws.length : Int) + 1) == 0) = false := beq_eq_false_iff_ne.2 (by omega)
  have hn1 : (0 : Int) < (ws.length : Int) + 1 := by omega
  clear hb hst
  go_enter Tryd.func33, Tryd.ntmps33
  by_cases hcap : cap = 1
  · have hw0 : ws = [] := List.length_eq_zero_iff.1 (by omega)
    go_wp2
    go_region
    go_wp2
    all_goals
      go_ret2
      subst hw0
      exact ⟨rfl, rb_step (ws := []) (cap' := 0) hGR hG HB.out HS.out (.inl rfl) (Nat.le_refl _)⟩
  · go_wp2
    go_region
    go_wp2
    all_goals
      go_ret2
      exact ⟨rfl, rb_step hGR hG HB.out HS.out (.inr rfl) (by omega)⟩
end Go.Proofs.YtaaijlkjbmpegaaDoor
