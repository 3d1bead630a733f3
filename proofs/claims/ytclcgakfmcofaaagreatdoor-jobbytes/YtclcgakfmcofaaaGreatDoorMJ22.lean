/- Texts laid together: SStr, LRWord, LRNum, LRSplit, LRRead, LRBlk, LRParse. -/
import Derived.Test.YtclcgakfmcofaaaGreatDoorRows
import Derived.WalkKit
import Derived.ProofKit
import Derived.OpenShut
import Derived.ShutString
import Derived.ChangeOld
import Derived.Below
import Derived.SliceStrings
import Derived.LaidMore
import Derived.WalkSmall
import Derived.Stop.Joined
import Derived.Test.YtclcgakfmcofaaaGreatDoorMJ1
import Derived.Test.YtclcgakfmcofaaaGreatDoorMJ2
import Derived.Deep.Slices
import Derived.OwnWalk
import Derived.Deep.QuietTactic
import Derived.BigQuiet
import Derived.Maps.AppendAt
import Derived.Test.YtclcgakfmcofaaaGreatDoorMJ10
import Derived.Deep.LoopGhost
import Derived.Deep.Cut
import Derived.Deep.CutRange
import Derived.Deep.CutBlock
/- A slice of strings: what its cells hold; one that came in, opened; TextWeight. -/
namespace Go.Proofs.YtclcgakfmcofaaaGreatDoor
open Go.ChangeShapes Go.WideShapes Go.ChangeAt Go.RowKit
set_option linter.unusedVariables false
set_option maxRecDepth 100000

theorem own : ownKnob Tryz.prog.godebug = none := by kernel_rfl
theorem Tryz.cells9L : Tryz.prog.cellsOf 9 = 1 := by kernel_rfl

/-- From (b, off) on the strings of l lie, one behind the other. -/
def StrsAt (w : World) (b off : Nat) (l : List ByteArray) : Prop := ∀ i x, l[i]? = some x → w.cell? ⟨b, off + i, none⟩ = some (.string x)
/-- The slice v holds the strings l. -/
def SS (w : World) (v : Value) (l : List ByteArray) : Prop :=
  ∃ a cap, v = .slice a l.length cap ∧ (l = [] ∨ ∃ b off, a = some ⟨b, off, none⟩ ∧ b < w.heap.size ∧ StrsAt w b off l)
theorem StrsAt.below {w w' : World} {b off B : Nat} {l : List ByteArray} (h : StrsAt w b off l) (hb : Below B w w') (hlt : b < B) : StrsAt w' b off l := fun i x hx => (hb.cell (p := ⟨b, off + i, none⟩) hlt).trans (h i x hx)
theorem SS.below {w w' : World} {v : Value} {l : List ByteArray} (h : SS w v l) (hb : Below w.heap.size w w') : SS w' v l := by
  obtain ⟨a, cap, rfl, h⟩ := h
  refine ⟨a, cap, rfl, ?_⟩
  rcases h with h | ⟨b, off, rfl, hlt, h⟩
  · exact .inl h
  · exact .inr ⟨b, off, rfl, Nat.lt_of_lt_of_le hlt hb.size, h.below hb hlt⟩
theorem SS.shape {w : World} {v : Value} {l : List ByteArray} (h : SS w v l) : (∃ a cap, v = .slice a 0 cap ∧ l = []) ∨ ∃ b off cap, v = .slice (some ⟨b, off, none⟩) l.length cap ∧ b < w.heap.size ∧ StrsAt w b off l := by
  obtain ⟨a, cap, rfl, h⟩ := h
  rcases h with rfl | ⟨b, off, rfl, hb, hat⟩
  · exact .inl ⟨a, cap, rfl, rfl⟩
  · exact .inr ⟨b, off, cap, rfl, hb, hat⟩
abbrev flatS (l : List ByteArray) : List Value := l.map Value.string
theorem strsAt_of_block {w : World} {g : Nat} {cur : Array Value} {e : TypeId} {l : List ByteArray} (hb : w.heap[g]? = some (.cells cur e (0, 0))) (ht : cur.toList.take (l.length * 1) = flatS l) : StrsAt w g 0 l := by
  intro i x hx
  have hi : i < l.length := (List.getElem?_eq_some_iff.1 hx).1
  have h0 : (flatS l)[i]? = some (.string x) := by simp [flatS, hx]
  rw [← ht, List.getElem?_take_of_lt (by omega)] at h0
  simp only [World.cell?, hb, Nat.zero_add]
  simpa using h0
/-- v owns the strings l, in a block from base on. -/
abbrev OwnS (w : World) (base : Nat) (v : Value) (l : List ByteArray) : Prop := w.ownsRow base 9 1 v l.length (flatS l)
theorem SS.own {w : World} {base : Nat} {v : Value} {l : List ByteArray} (h : OwnS w base v l) : SS w v l := by
  rcases h.2 with ⟨rfl, h0⟩ | ⟨g, cap, cur, rfl, _, hb, _, _, _, ht⟩
  · have : l = [] := List.length_eq_zero_iff.1 h0
    subst this
    exact ⟨none, 0, rfl, .inl rfl⟩
  · exact ⟨_, cap, rfl, .inr ⟨g, 0, rfl, (Array.getElem?_eq_some_iff.1 hb).1, strsAt_of_block hb ht⟩⟩
theorem OwnS.below {w w' : World} {base : Nat} {v : Value} {l : List ByteArray} (h : OwnS w base v l) (hb : Below w.heap.size w w') : OwnS w' base v l := by
  refine ⟨h.1, ?_⟩
  rcases h.2 with ⟨h1, h2⟩ | ⟨g, cap, cur, h1, h2, h3, h4⟩
  · exact .inl ⟨h1, h2⟩
  · exact .inr ⟨g, cap, cur, h1, h2, by rw [hb.block g (Array.getElem?_eq_some_iff.1 h3).1]; exact h3, h4⟩
theorem OwnS.snoc {w : World} {base n : Nat} {v : Value} {l : List ByteArray} {x : ByteArray} (h : w.ownsRow base 9 1 v (n + 1) (flatS l ++ [.string x])) (hn : n = l.length) : OwnS w base v (l ++ [x]) := by
  subst hn
  have : flatS (l ++ [x]) = flatS l ++ [.string x] := by simp [flatS]
  unfold OwnS
  rw [this, List.length_append]
  exact h
theorem OwnS.shape {w : World} {base : Nat} {v : Value} {l : List ByteArray} (h : OwnS w base v l) : ∃ a cap, v = .slice a l.length cap := by
  obtain ⟨a, cap, h, _⟩ := SS.own h
  exact ⟨a, cap, h⟩
theorem own_rowS {w : World} {base n : Nat} {e : TypeId} {size : Nat} {v : Value} {xs : List Value} (h : w.ownsRow base e size v n xs) : ∀ k, v.ownBlock = some k → base ≤ k := fun k hk => (h.lt k hk).1

/-! ### TextWeight -/
end Go.Proofs.YtclcgakfmcofaaaGreatDoor
/- The page's own: words; sums of strings. -/
namespace Go.Proofs.YtclcgakfmcofaaaGreatDoor
open Go.RowKit
set_option linter.unusedVariables false
set_option maxRecDepth 100000
end Go.Proofs.YtclcgakfmcofaaaGreatDoor
/- The page's own: number. -/
namespace Go.Proofs.YtclcgakfmcofaaaGreatDoor
open Go.RowKit Go.Lib
set_option linter.unusedVariables false
set_option maxRecDepth 100000
end Go.Proofs.YtclcgakfmcofaaaGreatDoor
/- The page's own: split. -/
namespace Go.Proofs.YtclcgakfmcofaaaGreatDoor
open Go.RowKit
set_option linter.unusedVariables false
set_option maxRecDepth 100000
/-- Words gathered. -/
structure Sp (B : Nat) (w : World) (v : Value) (wl : List ByteArray) (wr : World) : Prop where
  own : OwnS wr B v wl
  bel : Below B w wr
  size : B ≤ wr.heap.size
theorem Sp.app {B : Nat} {w wr w2 : World} {v v2 : Value} {wl : List ByteArray} {x : ByteArray} (h : Sp B w v wl wr)
    (ho : w2.ownsRow B 9 1 v2 (wl.length + 1) (flatS wl ++ [.string x])) (hg : wr.grownBy w2 v.ownBlock) : Sp B w v2 (wl ++ [x]) w2 :=
  ⟨OwnS.snoc ho rfl, h.bel.grown hg h.size (own_rowS h.own), Nat.le_trans h.size hg.size⟩
theorem Sp.box {B : Nat} {w wr : World} {v : Value} {wl : List ByteArray} (h : Sp B w v wl wr) (o : Obj) : Sp B w v wl (wr.alloc o) :=
  ⟨OwnS.below h.own ((Below.refl _ _).alloc (Nat.le_refl _) _), h.bel.alloc h.size _, by simp; have := h.size; omega⟩
end Go.Proofs.YtclcgakfmcofaaaGreatDoor
/- The page's own reader of words: what lies in memory. -/
namespace Go.Proofs.YtclcgakfmcofaaaGreatDoor
open Go.RowKit
set_option linter.unusedVariables false
set_option maxRecDepth 100000

/-- At block R a reader of the words ws (which lie in block G), behind m ops. -/
def RP (w : World) (R G : Nat) (ws : List (List UInt8)) (m : Nat) : Prop :=
  G ≠ R ∧ G < w.heap.size ∧ ∃ a cap o, w.heap[R]? = some (.cells #[.slice a ws.length cap, .int .i64 m] 175 (0, 0)) ∧ ws.length ≤ cap ∧ (ws = [] ∨ a = some ⟨G, o, none⟩) ∧ StrsAt w G o (ws.map ba)
theorem RP.lt {w : World} {R G m : Nat} {ws : List (List UInt8)} (h : RP w R G ws m) : R < w.heap.size := by
  obtain ⟨_, _, a, cap, o, hb, _⟩ := h
  exact (Array.getElem?_eq_some_iff.1 hb).1
/-- A reader stays where its two blocks do. -/
theorem RP.keep {w w' : World} {R G m : Nat} {ws : List (List UInt8)} (h : RP w R G ws m) (hR : w'.heap[R]? = w.heap[R]?) (hG : w'.heap[G]? = w.heap[G]?) (hs : w.heap.size ≤ w'.heap.size) : RP w' R G ws m := by
  obtain ⟨h1, h2, a, cap, o, hb, hc, ha, hst⟩ := h
  refine ⟨h1, by omega, a, cap, o, by rw [hR]; exact hb, hc, ha, fun i x hx => ?_⟩
  rw [World.cell?_of_block (a := ⟨G, o + i, none⟩) hG]
  exact hst i x hx
theorem RP.below {w w' : World} {R G m : Nat} {ws : List (List UInt8)} (h : RP w R G ws m) (hb : Below w.heap.size w w') : RP w' R G ws m := h.keep (hb.block _ h.lt) (hb.block _ h.2.1) hb.size
theorem RP.cell1 {w : World} {R G m : Nat} {ws : List (List UInt8)} (h : RP w R G ws m) : w.cell? ⟨R, 1, none⟩ = some (.int .i64 m) ∧ w.frozen? ⟨R, 1, none⟩ = false := by
  obtain ⟨h1, h2, a, cap, o, hb, _⟩ := h
  constructor <;> simp [World.cell?, World.frozen?, hb]
theorem RP.set {w : World} {R G m b q : Nat} {ws : List (List UInt8)} (h : RP w R G ws m) (hR : b ≠ R) (hG : b ≠ G) (u : Value) : RP (w.setCell ⟨b, q, none⟩ u) R G ws m :=
  h.keep (Below.heap_setCell _ _ _ _ (by show R ≠ b; omega)) (Below.heap_setCell _ _ _ _ (by show G ≠ b; omega)) (by simp [World.setCell])

theorem RP.cells {w : World} {R G m : Nat} {ws : List (List UInt8)} (h : RP w R G ws m) : ∃ a cap, w.cell? ⟨R, 0, none⟩ = some (.slice a ws.length cap) ∧ w.frozen? ⟨R, 0, none⟩ = false ∧ ws.length ≤ cap := by
  obtain ⟨h1, h2, a, cap, o, hb, hc, _⟩ := h
  exact ⟨a, cap, by simp [World.cell?, hb], by simp [World.frozen?, hb], hc⟩
/-- The op's box, and the reader. -/
structure BxL (R G b : Nat) (ws : List (List UInt8)) (m : Nat) (k n : Int) (sv : Value) (wr W : World) : Prop where
  rp : RP W R G ws m
  blk : BlkO W b k n sv
  neR : b ≠ R
  neG : b ≠ G
  gr : wr.grownBy W (some R)
  sz : wr.heap.size ≤ b
theorem BlkO.put1 {W : World} {b : Nat} {k n : Int} {v : Value} (h : BlkO W b k n v) (n' : Int) : BlkO (W.setCell ⟨b, 1, none⟩ (.int .i64 n')) b k n' v := by
  unfold BlkO at h ⊢
  simp only [World.setCell, Array.getElem?_modify, h]
  simp
theorem BlkO.put0 {W : World} {b : Nat} {k n : Int} {v : Value} (h : BlkO W b k n v) (k' : Int) : BlkO (W.setCell ⟨b, 0, none⟩ (.int .i64 k')) b k' n v := by
  unfold BlkO at h ⊢
  simp only [World.setCell, Array.getElem?_modify, h]
  simp
theorem BxL.new {R G m : Nat} {ws : List (List UInt8)} {wr W : World} (hr : RP W R G ws m) (hg : wr.grownBy W (some R)) (k n : Int) (sv : Value) : BxL R G W.heap.size ws m k n sv wr (W.alloc (.cells #[.int .i64 k, .int .i64 n, sv] 230)) :=
  ⟨hr.below ((Below.refl _ _).alloc (Nat.le_refl _) _), BlkO.new _ _ _ _, by have := hr.lt; omega, by have := hr.2.1; omega, galloc hg _, hg.size⟩
theorem BxL.set1 {R G b m : Nat} {ws : List (List UInt8)} {k n : Int} {sv : Value} {wr W : World} (h : BxL R G b ws m k n sv wr W) (n' : Int) : BxL R G b ws m k n' sv wr (W.setCell ⟨b, 1, none⟩ (.int .i64 n')) :=
  ⟨h.rp.set h.neR h.neG _, h.blk.put1 n', h.neR, h.neG, gset h.gr h.sz _, h.sz⟩
theorem BxL.set0 {R G b m : Nat} {ws : List (List UInt8)} {k n : Int} {sv : Value} {wr W : World} (h : BxL R G b ws m k n sv wr W) (k' : Int) : BxL R G b ws m k' n sv wr (W.setCell ⟨b, 0, none⟩ (.int .i64 k')) :=
  ⟨h.rp.set h.neR h.neG _, h.blk.put0 k', h.neR, h.neG, gset h.gr h.sz _, h.sz⟩
theorem BxL.set2 {R G b m : Nat} {ws : List (List UInt8)} {k n : Int} {sv : Value} {wr W : World} (h : BxL R G b ws m k n sv wr W) (sv' : Value) : BxL R G b ws m k n sv' wr (W.setCell ⟨b, 2, none⟩ sv') :=
  ⟨h.rp.set h.neR h.neG _, h.blk.put2 sv', h.neR, h.neG, gset h.gr h.sz _, h.sz⟩
theorem BxL.call {R G b m : Nat} {ws : List (List UInt8)} {k n : Int} {sv : Value} {wr W W' : World} (h : BxL R G b ws m k n sv wr W) (hb : Below W.heap.size W W') : BxL R G b ws m k n sv wr W' :=
  ⟨h.rp.below hb, h.blk.step hb, h.neR, h.neG, gbel h.gr hb, h.sz⟩
theorem BxL.own {R G b m lo : Nat} {ws : List (List UInt8)} {k n : Int} {sv v : Value} {acc : Fo} {wr W : World} (h : BxL R G b ws m k n sv wr W) (hR : R < lo) (ho : OwnF lo wr v acc) : OwnF lo W v acc :=
  ho.keep fun j hj hlt => h.gr.block j hlt (fun e => by injection e; omega)
/-- The cells that are read and written. -/
theorem BxL.cells {R G b m : Nat} {ws : List (List UInt8)} {k n : Int} {sv : Value} {wr W : World} (h : BxL R G b ws m k n sv wr W) : (W.cell? ⟨R, 1, none⟩ = some (.int .i64 m) ∧ W.frozen? ⟨R, 1, none⟩ = false) ∧ (W.cell? ⟨b, 0, none⟩ = some (.int .i64 k) ∧ W.cell? ⟨b, 1, none⟩ = some (.int .i64 n) ∧ W.cell? ⟨b, 2, none⟩ = some sv) ∧ (W.frozen? ⟨b, 0, none⟩ = false ∧ W.frozen? ⟨b, 1, none⟩ = false ∧ W.frozen? ⟨b, 2, none⟩ = false) := ⟨h.rp.cell1, h.blk.cells, h.blk.free⟩
end Go.Proofs.YtclcgakfmcofaaaGreatDoor
/- The page's own reader of words: block. -/
namespace Go.Proofs.YtclcgakfmcofaaaGreatDoor
open Go.RowKit
set_option linter.unusedVariables false
set_option maxRecDepth 100000
end Go.Proofs.YtclcgakfmcofaaaGreatDoor
/- The page's own: Parse. -/
namespace Go.Proofs.YtclcgakfmcofaaaGreatDoor
open Go.RowKit
set_option linter.unusedVariables false
set_option maxRecDepth 100000
end Go.Proofs.YtclcgakfmcofaaaGreatDoor
