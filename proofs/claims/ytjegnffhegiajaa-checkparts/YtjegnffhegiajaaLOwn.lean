/- Ops of the call's own: their boxes, rows and blocks. -/
import Derived.Test.YtjegnffhegiajaaLOps
namespace Go.Proofs.Ytjegnffhegiajaa
open Go.RowKit
set_option linter.unusedVariables false
set_option maxRecDepth 100000

theorem hidC {p : Prop} (h : p) : Hid p := h
theorem Try.infoOp : (Try.prog.info? 38).map (fun i => (i.zero, i.size, i.bytes)) = some (some (.agg #[.int .i64 0, .int .i64 0, .slice none 0 0]), 3, 40) := by kernel_rfl
theorem own_row {w : World} {base n : Nat} {e : TypeId} {size : Nat} {v : Value} {xs : List Value} (h : w.ownsRow base e size v n xs) : ∀ k, v.ownBlock = some k → base ≤ k := fun k hk => (h.lt k hk).1
/-- A block of three cells. -/
theorem cell3 {w : World} {g : Nat} {x y z : Value} {T : TypeId} {fr : Nat × Nat} (h : w.heap[g]? = some (.cells #[x, y, z] T fr)) : w.cell? ⟨g, 0, none⟩ = some x ∧ w.cell? ⟨g, 1, none⟩ = some y ∧ w.cell? ⟨g, 2, none⟩ = some z := by
  refine ⟨?_, ?_, ?_⟩ <;> simp [World.cell?, h]
theorem news3 {w : World} {g : Nat} {x y z : Value} {T : TypeId} {fr : Nat × Nat} (h : w.heap[g]? = some (.cells #[x, y, z] T fr)) : ∀ j u, [x, y, z][j]? = some u → w.cell? ((⟨g, 0, none⟩ : Addr).add j) = some u := by
  intro j u hj
  rw [Addr.add_lit, Nat.zero_add]
  obtain ⟨a, b, c⟩ := cell3 h
  match j, hj with
  | 0, hj => simp at hj; subst hj; exact a
  | 1, hj => simp at hj; subst hj; exact b
  | 2, hj => simp at hj; subst hj; exact c
theorem new3 (w : World) (x y z : Value) (T : TypeId) : (w.alloc (.cells #[x, y, z] T)).heap[w.heap.size]? = some (.cells #[x, y, z] T (0, 0)) := heap_alloc_new w _
theorem op_cells (k n : Int) (a : Option Addr) (l c : Nat) : ∀ u ∈ [Value.int .i64 k, .int .i64 n, .slice a l c], u.oneCell' = true := by
  intro u hu
  simp only [List.mem_cons, List.not_mem_nil, or_false] at hu
  rcases hu with rfl | rfl | rfl <;> rfl

theorem owns_below {w w' : World} {base n size : Nat} {e : TypeId} {v : Value} {xs : List Value} (h : w.ownsRow base e size v n xs) (hb : Below w.heap.size w w') : w'.ownsRow base e size v n xs := by
  refine ⟨h.1, ?_⟩
  rcases h.2 with ⟨h1, h2⟩ | ⟨g, cap, cur, h1, h2, h3, h4⟩
  · exact .inl ⟨h1, h2⟩
  · exact .inr ⟨g, cap, cur, h1, h2, by rw [hb.block g (Array.getElem?_eq_some_iff.1 h3).1]; exact h3, h4⟩
/-- Ops that a call made, seen beside a row of one's own. -/
theorem inner_fs {lo lo1 : Nat} {w1 w3 : World} {v u : Value} {b : Fo} (h : FS (QO lo1) w1 v b) (hk : ∀ k, lo1 ≤ k → k < w1.heap.size → w3.heap[k]? = w1.heap[k]?) (hlo : lo ≤ lo1) (hu : ∀ k, u.ownBlock = some k → k < lo1) : FS (QX lo u) w3 v b :=
  h.move fun c o hq => by
    have hl := hq.lt
    obtain ⟨h1, cur, h2⟩ := hq
    have e := hk c h1.2 hl
    exact ⟨e, ⟨⟨h1.1, Nat.le_trans hlo h1.2⟩, cur, by rw [e]; exact h2⟩, fun hc => by have := hu c hc.symm; have := h1.2; omega⟩
theorem rows_below {lo : Nat} {w w3 : World} {v : Value} {f : Fo} {l : List Ro} (h : Rows' (QX lo v) w l f) (hb : Below w.heap.size w w3) : Rows' (QX lo v) w3 l f :=
  h.move fun c o hq => by
    have hl := hq.1.lt
    obtain ⟨⟨h1, cur, h2⟩, h3⟩ := hq
    have e := hb.block c hl
    exact ⟨e, ⟨h1, cur, by rw [e]; exact h2⟩, h3⟩
/-- A box, behind a call. -/
theorem box_kept {W w1 : World} {x y z : Value} {T : TypeId} (hb : Below (W.alloc (.cells #[x, y, z] T)).heap.size (W.alloc (.cells #[x, y, z] T)) w1) : w1.heap[W.heap.size]? = some (.cells #[x, y, z] T (0, 0)) := by
  rw [hb.block _ (by simp)]
  exact new3 W x y z T
end Go.Proofs.Ytjegnffhegiajaa
