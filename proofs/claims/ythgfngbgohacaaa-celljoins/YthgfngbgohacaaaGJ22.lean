/- Two cells made anew, in whatever order. -/
import Derived.Test.YthgfngbgohacaaaGJK
import Derived.Laws.OwnMore
namespace Go.Proofs.Ythgfngbgohacaaa
open Go.RowKit
set_option linter.unusedVariables false
set_option maxRecDepth 100000

/-- A row is not the block that is set. -/
theorem own_sets {Z : World} {base b : Nat} {v u : Value} {l : List Int} {m : Int} (h : OwnL Z base v l) (hne : ∀ k, v.ownBlock = some k → k ≠ b) : OwnL ((Z.setCell ⟨b, 0, none⟩ (.int .i64 m)).setCell ⟨b, 1, none⟩ u) base v l := by
  have one : ∀ (W : World) (o : Nat) (x : Value), OwnL W base v l → OwnL (W.setCell ⟨b, o, none⟩ x) base v l := fun W o x h => h.kept (grownBy_set _ _ _ _) (.inr fun e => hne b e rfl)
  exact one _ _ _ (one _ _ _ h)
abbrev cellO (c : Cl) (a : Option Addr) (cp : Nat) : Obj := .cells #[.int .i64 c.1, .slice a c.2.length cp] 29
abbrev zeroO : Obj := .cells #[.int .i64 0, .slice none 0 0] 29
abbrev setC (Z : World) (b : Nat) (c : Cl) (a : Option Addr) (cp : Nat) : World := (Z.setCell ⟨b, 0, none⟩ (.int .i64 c.1)).setCell ⟨b, 1, none⟩ (.slice a c.2.length cp)
/-- Two cells, each in a block. -/
def Two (W0 : World) (x y : Nat) (c d : Cl) (a : Option Addr) (cp : Nat) (a' : Option Addr) (cp' : Nat) (F : World) : Prop := TB W0 x c a cp F ∧ TB W0 y d a' cp' F
section
variable {W0 V : World} {c d : Cl} {a a' : Option Addr} {cp cp' base base' x y : Nat}
theorem two_ab (hb : Below W0.heap.size W0 V) (h1 : OwnL V base (.slice a c.2.length cp) c.2) (h2 : OwnL V base' (.slice a' d.2.length cp') d.2) : Two W0 V.heap.size (V.heap.size + 1) c d a cp a' cp' ((V.alloc (cellO c a cp)).alloc (cellO d a' cp')) := by
  have n2 := BlkC.new (V.alloc (cellO c a cp)) d.1 (.slice a' d.2.length cp')
  have hz : (V.alloc (cellO c a cp)).heap.size = V.heap.size + 1 := by simp
  rw [hz] at n2
  exact ⟨⟨nxt hb (nxt (stp _ _) (stp _ _)), (BlkC.new V _ _).below (stp _ _), (h1.ns.below (stp _ _)).below (stp _ _)⟩, nxt hb (nxt (stp _ _) (stp _ _)), n2, (h2.ns.below (stp _ _)).below (stp _ _)⟩
theorem two_ba (hb : Below W0.heap.size W0 V) (h1 : OwnL V base (.slice a c.2.length cp) c.2) (h2 : OwnL V base' (.slice a' d.2.length cp') d.2) : Two W0 (V.heap.size + 1) V.heap.size c d a cp a' cp' ((V.alloc (cellO d a' cp')).alloc (cellO c a cp)) := (two_ab hb h2 h1).symm
theorem two_sa (hb : Below W0.heap.size W0 V) (h1 : OwnL V base (.slice a c.2.length cp) c.2) (h2 : OwnL V base' (.slice a' d.2.length cp') d.2) (hx : W0.heap.size ≤ x) (zx : BlkC V x 0 (.slice none 0 0)) (n1 : ∀ k, (Value.slice a c.2.length cp).ownBlock = some k → k ≠ x) (n2 : ∀ k, (Value.slice a' d.2.length cp').ownBlock = some k → k ≠ x) :
    Two W0 x V.heap.size c d a cp a' cp' ((setC V x c a cp).alloc (cellO d a' cp')) := by
  have hb' : Below W0.heap.size W0 (setC V x c a cp) := below_set hb hx _ _
  have n3 := BlkC.new (setC V x c a cp) d.1 (.slice a' d.2.length cp')
  have hz : (setC V x c a cp).heap.size = V.heap.size := by simp [World.setCell]
  rw [hz] at n3
  exact ⟨⟨nxt hb' (stp _ _), (BlkC.set zx).below (stp _ _), (own_sets h1 n1).ns.below (stp _ _)⟩, nxt hb' (stp _ _), n3, (own_sets h2 n2).ns.below (stp _ _)⟩
theorem two_sb (hb : Below W0.heap.size W0 V) (h1 : OwnL V base (.slice a c.2.length cp) c.2) (h2 : OwnL V base' (.slice a' d.2.length cp') d.2) (hy : W0.heap.size ≤ y) (zy : BlkC V y 0 (.slice none 0 0)) (n1 : ∀ k, (Value.slice a c.2.length cp).ownBlock = some k → k ≠ y) (n2 : ∀ k, (Value.slice a' d.2.length cp').ownBlock = some k → k ≠ y) :
    Two W0 V.heap.size y c d a cp a' cp' ((setC V y d a' cp').alloc (cellO c a cp)) := (two_sa hb h2 h1 hy zy n2 n1).symm
theorem two_ss (hb : Below W0.heap.size W0 V) (h1 : OwnL V base (.slice a c.2.length cp) c.2) (h2 : OwnL V base' (.slice a' d.2.length cp') d.2) (hx : W0.heap.size ≤ x) (hy : W0.heap.size ≤ y) (hne : x ≠ y) (zx : BlkC V x 0 (.slice none 0 0)) (zy : BlkC V y 0 (.slice none 0 0))
    (n1 : ∀ k, (Value.slice a c.2.length cp).ownBlock = some k → k ≠ x) (n2 : ∀ k, (Value.slice a' d.2.length cp').ownBlock = some k → k ≠ x) (n3 : ∀ k, (Value.slice a c.2.length cp).ownBlock = some k → k ≠ y) (n4 : ∀ k, (Value.slice a' d.2.length cp').ownBlock = some k → k ≠ y) :
    Two W0 x y c d a cp a' cp' (setC (setC V x c a cp) y d a' cp') := by
  have hb' : Below W0.heap.size W0 (setC V x c a cp) := below_set hb hx _ _
  have zy' : BlkC (setC V x c a cp) y 0 (.slice none 0 0) := (zy.other (Ne.symm hne)).other (Ne.symm hne)
  exact ⟨⟨below_set hb' hy _ _, ((BlkC.set zx).other hne).other hne, (own_sets (own_sets h1 n1) n3).ns⟩, below_set hb' hy _ _, BlkC.set zy', (own_sets (own_sets h2 n2) n4).ns⟩
end
/-- What is to be known of a block ahead of a store. -/
theorem fb {V : World} {b : Nat} (c d : Cl) (z : BlkC V b 0 (.slice none 0 0)) : V.cell? ⟨b, 0, none⟩ = some (.int .i64 0) ∧ V.cell? ⟨b, 1, none⟩ = some (.slice none 0 0) ∧ V.frozen? ⟨b, 0, none⟩ = false ∧ V.frozen? ⟨b, 1, none⟩ = false ∧
    (V.setCell ⟨b, 0, none⟩ (.int .i64 c.1)).cell? ⟨b, 1, none⟩ = some (.slice none 0 0) ∧ (V.setCell ⟨b, 0, none⟩ (.int .i64 c.1)).frozen? ⟨b, 1, none⟩ = false ∧ (V.setCell ⟨b, 0, none⟩ (.int .i64 d.1)).cell? ⟨b, 1, none⟩ = some (.slice none 0 0) ∧ (V.setCell ⟨b, 0, none⟩ (.int .i64 d.1)).frozen? ⟨b, 1, none⟩ = false := by
  obtain ⟨h0, h1, h2, h3⟩ := z.cells
  obtain ⟨_, g1, _, g3⟩ := (z.set0 c.1).cells
  obtain ⟨_, k1, _, k3⟩ := (z.set0 d.1).cells
  exact ⟨h0, h1, h2, h3, g1, g3, k1, k3⟩
/-- Another block is as it was. -/
theorem zero_other {V : World} {b b' : Nat} {c : Cl} {a : Option Addr} {cp : Nat} (z : BlkC V b' 0 (.slice none 0 0)) (hne : b' ≠ b) : BlkC (setC V b c a cp) b' 0 (.slice none 0 0) := (z.other hne).other hne
theorem ne_of_lt {W V : World} {base b : Nat} {v : Value} {l : List Int} (h : OwnL W base v l) (hb : b < base ∨ W.heap.size ≤ b) : ∀ k, v.ownBlock = some k → k ≠ b := fun k hk e => by
  have := h.lt k hk
  omega
/-- Two cells, and what they are together, each in a block. -/
structure JF (W0 : World) (base b12 b13 b14 : Nat) (c d r : Cl) (a12 : Option Addr) (c12 : Nat) (a13 : Option Addr) (c13 : Nat) (a5 : Option Addr) (c5 : Nat) (W : World) : Prop where
  ta : TB W0 b12 c a12 c12 W
  tb : TB W0 b13 d a13 c13 W
  bx : BlkC W b14 r.1 (.slice a5 r.2.length c5)
  ox : OwnL W base (.slice a5 r.2.length c5) r.2
theorem JF.next {W0 : World} {base b12 b13 b14 : Nat} {c d r : Cl} {a12 : Option Addr} {c12 : Nat} {a13 : Option Addr} {c13 : Nat} {a5 : Option Addr} {c5 : Nat} {W W' : World} (h : JF W0 base b12 b13 b14 c d r a12 c12 a13 c13 a5 c5 W) (hb : Below W.heap.size W W') : JF W0 base b12 b13 b14 c d r a12 c12 a13 c13 a5 c5 W' :=
  ⟨h.ta.next hb, h.tb.next hb, h.bx.below hb, OwnL.below h.ox hb⟩
/-- What is together, made from what Join told. -/
theorem JF.make {W0 wa W5 : World} {b12 b13 : Nat} {c d r : Cl} {a12 : Option Addr} {c12 : Nat} {a13 : Option Addr} {c13 : Nat} {a5 : Option Addr} {c5 : Nat} (hT : Two W0 b12 b13 c d a12 c12 a13 c13 wa) (hb : Below wa.heap.size wa W5) (ho : OwnL W5 wa.heap.size (.slice a5 r.2.length c5) r.2) : JF W0 wa.heap.size b12 b13 W5.heap.size c d r a12 c12 a13 c13 a5 c5 (W5.alloc (cellO r a5 c5)) :=
  ⟨hT.1.next (nxt hb (stp _ _)), hT.2.next (nxt hb (stp _ _)), BlkC.new _ _ _, OwnL.below ho (stp _ _)⟩
/-- What the comparisons read. -/
abbrev TwoP (b : Nat) (c : Cl) (a : Option Addr) (cp : Nat) (W : World) : Prop := W.cell? ⟨b, 0, none⟩ = some (.int .i64 c.1) ∧ W.cell? ⟨b, 1, none⟩ = some (.slice a c.2.length cp)
theorem TB.two {W0 W : World} {b cap : Nat} {c : Cl} {a : Option Addr} (h : TB W0 b c a cap W) : TwoP b c a cap W := ⟨h.blk.cells.1, h.blk.cells.2.1⟩
theorem BlkC.two {W : World} {b cap : Nat} {c : Cl} {a : Option Addr} (h : BlkC W b c.1 (.slice a c.2.length cap)) : TwoP b c a cap W := ⟨h.cells.1, h.cells.2.1⟩
/-- What is left of the answer while it is written over. -/
structure LX (wa : World) (b14 : Nat) (n1 : Int) (m : Nat) (a5 : Option Addr) (c5 : Nat) (l : List Int) (W : World) : Prop where
  bel : Below wa.heap.size wa W
  blk : BlkC W b14 n1 (.slice a5 m c5)
  own : OwnL W wa.heap.size (.slice a5 m c5) l
  len : l.length = m
theorem LX.at {wa W : World} {b14 m c5 : Nat} {n1 : Int} {a5 : Option Addr} {l : List Int} (h : LX wa b14 n1 m a5 c5 l W) {j : Nat} (hj : j < m) : ∃ (g : Nat) (y : Int), a5 = some ⟨g, 0, none⟩ ∧ W.cell? ⟨g, j, none⟩ = some (.int .i64 y) ∧ W.frozen? ⟨g, j, none⟩ = false := by
  rcases h.own.2 with ⟨e, h0⟩ | ⟨g, cap, cur, e, hlo, hb, hn, hm, hz, ht⟩
  · have := h.len; omega
  · injection e with e1 e2 e3
    subst e1
    obtain ⟨y, hy⟩ := getSome (l := l) (i := j) (by have := h.len; omega)
    have hc := h.own.cells (g := g) rfl j (.int .i64 y) (by simp [hy])
    rw [Addr.add_lit, Nat.zero_add] at hc
    exact ⟨g, y, rfl, hc, by simp [World.frozen?, hb]⟩
theorem LX.put {wa W : World} {b14 m c5 g : Nat} {n1 : Int} {l : List Int} (h : LX wa b14 n1 m (some ⟨g, 0, none⟩) c5 l W) (hg : wa.heap.size ≤ g ∧ g < b14) (j : Nat) (y : Int) : LX wa b14 n1 m (some ⟨g, 0, none⟩) c5 (l.set j y) (W.setCell ⟨g, j, none⟩ (.int .i64 y)) := by
  have ho := h.own
  unfold OwnL at ho
  rw [h.len] at ho
  have hs := (ho.stored j (.int .i64 y)).1
  refine ⟨below_set1 h.bel hg.1 _, h.blk.other (by omega), ?_, by rw [List.length_set]; exact h.len⟩
  unfold OwnL
  rw [List.length_set, h.len, List.map_set]
  exact hs
end Go.Proofs.Ythgfngbgohacaaa
