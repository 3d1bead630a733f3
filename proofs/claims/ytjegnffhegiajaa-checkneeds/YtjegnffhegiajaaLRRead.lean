/- The page's own reader of words: what lies in memory. -/
import Derived.Test.YtjegnffhegiajaaLRSplit
import Derived.Test.YtjegnffhegiajaaLGrow
import Derived.Deep.LoopGhost
namespace Go.Proofs.Ytjegnffhegiajaa
open Go.RowKit
set_option linter.unusedVariables false
set_option maxRecDepth 100000

/-- At block R a reader of the words ws (which lie in block G), behind m ops. -/
def RP (w : World) (R G : Nat) (ws : List (List UInt8)) (m : Nat) : Prop :=
  G ≠ R ∧ G < w.heap.size ∧ ∃ a cap o, w.heap[R]? = some (.cells #[.slice a ws.length cap, .int .i64 m] 50 (0, 0)) ∧ ws.length ≤ cap ∧ (ws = [] ∨ a = some ⟨G, o, none⟩) ∧ StrsAt w G o (ws.map ba)
theorem RP.lt {w : World} {R G m : Nat} {ws : List (List UInt8)} (h : RP w R G ws m) : R < w.heap.size := by
  obtain ⟨_, _, a, cap, o, hb, _⟩ := h
  exact (Array.getElem?_eq_some_iff.1 hb).1
/-- A reader stays where its two blocks do. -/
theorem RP.keep {w w' : World} {R G m : Nat} {ws : List (List UInt8)} (h : RP w R G ws m) (hR : w'.heap[R]? = w.heap[R]?) (hG : w'.heap[G]? = w.heap[G]?) (hs : w.heap.size ≤ w'.heap.size) : RP w' R G ws m := by
  obtain ⟨h1, h2, a, cap, o, hb, hc, ha, hst⟩ := h
  refine ⟨h1, by omega, a, cap, o, by rw [hR]; exact hb, hc, ha, fun i x hx => ?_⟩
  rw [World.cell?_of_block (a := ⟨G, o + i, none⟩) hG]
  exact hst i x hx
theorem RP.below {w w' : World} {R G m : Nat} {ws : List (List UInt8)} (h : RP w R G ws m) (hb : Below w.heap.size w w') : RP w' R G ws m := h.keep (hb.block _ h.lt) (hb.block _ h.2.1) hb.size
theorem rp_step {w : World} {R G m o cap cap' : Nat} {x : List UInt8} {ws : List (List UInt8)} {a a' : Option Addr} (hGR : G ≠ R) (hG : G < w.heap.size) (hb : w.heap[R]? = some (.cells #[.slice a (x :: ws).length cap, .int .i64 m] 50 (0, 0)))
    (hst : StrsAt w G o ((x :: ws).map ba)) (ha : ws = [] ∨ a' = some ⟨G, o + 1, none⟩) (hc : ws.length ≤ cap') :
    w.grownBy (w.setCell ⟨R, 0, none⟩ (.slice a' ws.length cap')) (some R) ∧ RP (w.setCell ⟨R, 0, none⟩ (.slice a' ws.length cap')) R G ws m := by
  refine ⟨⟨rfl, rfl, rfl, by simp [World.setCell], fun k hk hne => Below.heap_setCell _ _ _ _ (fun e => hne (by rw [e]))⟩, hGR, by simpa [World.setCell] using hG, a', cap', o + 1, ?_, hc, ha, fun i y hy => ?_⟩
  · show (w.heap.modify _ _)[R]? = _
    rw [Array.getElem?_modify, hb]
    simp
  · have := hst (i + 1) y (by simpa using hy)
    have e : (w.setCell ⟨R, 0, none⟩ (.slice a' ws.length cap')).cell? ⟨G, o + 1 + i, none⟩ = w.cell? ⟨G, o + 1 + i, none⟩ :=
      World.cell?_of_block (a := ⟨G, o + 1 + i, none⟩) (Below.heap_setCell _ _ _ _ hGR)
    rw [e, show o + 1 + i = o + (i + 1) by omega]
    exact this
theorem rp_many {w : World} {R G m : Nat} {ws : List (List UInt8)} (h : RP w R G ws m) (m' : Nat) : RP (w.setCell ⟨R, 1, none⟩ (.int .i64 (m' : Int))) R G ws m' := by
  obtain ⟨h1, h2, a, cap, o, hb, hc, ha, hst⟩ := h
  refine ⟨h1, by simpa [World.setCell] using h2, a, cap, o, ?_, hc, ha, fun i x hx => ?_⟩
  · show (w.heap.modify _ _)[R]? = _
    rw [Array.getElem?_modify, hb]
    simp
  · rw [World.cell?_of_block (a := ⟨G, o + i, none⟩) (Below.heap_setCell _ _ _ _ h1)]
    exact hst i x hx
theorem RP.cell1 {w : World} {R G m : Nat} {ws : List (List UInt8)} (h : RP w R G ws m) : w.cell? ⟨R, 1, none⟩ = some (.int .i64 m) ∧ w.frozen? ⟨R, 1, none⟩ = false := by
  obtain ⟨h1, h2, a, cap, o, hb, _⟩ := h
  constructor <;> simp [World.cell?, World.frozen?, hb]
theorem RP.set {w : World} {R G m b q : Nat} {ws : List (List UInt8)} (h : RP w R G ws m) (hR : b ≠ R) (hG : b ≠ G) (u : Value) : RP (w.setCell ⟨b, q, none⟩ u) R G ws m :=
  h.keep (Below.heap_setCell _ _ _ _ (by show R ≠ b; omega)) (Below.heap_setCell _ _ _ _ (by show G ≠ b; omega)) (by simp [World.setCell])

theorem RP.cells {w : World} {R G m : Nat} {ws : List (List UInt8)} (h : RP w R G ws m) : ∃ a cap, w.cell? ⟨R, 0, none⟩ = some (.slice a ws.length cap) ∧ w.frozen? ⟨R, 0, none⟩ = false ∧ ws.length ≤ cap := by
  obtain ⟨h1, h2, a, cap, o, hb, hc, _⟩ := h
  exact ⟨a, cap, by simp [World.cell?, hb], by simp [World.frozen?, hb], hc⟩
/-- The first word taken off. -/
theorem RP.pop {w : World} {R G m : Nat} {x : List UInt8} {ws : List (List UInt8)} (h : RP w R G (x :: ws) m) : ∃ o cap, w.cell? ⟨R, 0, none⟩ = some (.slice (some ⟨G, o, none⟩) (ws.length + 1) cap) ∧ w.cell? ⟨G, o, none⟩ = some (.string (ba x)) ∧ ws.length + 1 ≤ cap ∧ w.frozen? ⟨R, 0, none⟩ = false ∧
    ∀ a' cap', (ws = [] ∨ a' = some ⟨G, o + 1, none⟩) → ws.length ≤ cap' → w.grownBy (w.setCell ⟨R, 0, none⟩ (.slice a' ws.length cap')) (some R) ∧ RP (w.setCell ⟨R, 0, none⟩ (.slice a' ws.length cap')) R G ws m := by
  obtain ⟨hGR, hG, a, cap, o, hb, hc, ha, hst⟩ := h
  rcases ha with ha | rfl
  · simp at ha
  refine ⟨o, cap, by simp [World.cell?, hb], ?_, by simpa using hc, by simp [World.frozen?, hb], fun a' cap' h1 h2 => rp_step hGR hG hb hst h1 h2⟩
  have := hst 0 (ba x) rfl
  simpa using this
/-- The slice behind the first word. -/
theorem slice_pop (G o n cp : Nat) (h : n + 1 ≤ cp) : ∃ a', (n = 0 ∨ a' = some ⟨G, o + 1, none⟩) ∧ ∀ W, (Instr.slice 22 (.slice (some ⟨G, o, none⟩) (n + 1) cp) (some (.int .i64 1)) none none).run Try.prog W = .ok (.slice a' n (cp - 1)) W := by
  have hz := Try.sizeOf9
  have hr := fun W => run_slice_l (P := Try.prog) W 22 (some ⟨G, o, none⟩) (n + 1) cp Try.underlying22 .i64 1 (by omega) (by omega)
  have he : Try.prog.elem 22 = 9 := by kernel_rfl
  by_cases hc : cp = 1
  · refine ⟨some ⟨G, o, none⟩, .inl (by omega), fun W => ?_⟩
    rw [hr, he, hz]
    simp [sliced, hc]
  · refine ⟨some ⟨G, o + 1, none⟩, .inr rfl, fun W => ?_⟩
    rw [hr, he, hz]
    simp [sliced, hc, Addr.add]
/-- What the page's block tells. -/
def LResP (R G : Nat) (w w' : World) (e : Ending) : Rs → Prop
  | .err c => e = .returned (.tuple #[.slice none 0 0, .int .i64 c]) ∧ c ≠ 0
  | .ok f ws' m' => ∃ v, e = .returned (.tuple #[v, .int .i64 0]) ∧ OwnF w.heap.size w' v f ∧ RP w' R G ws' m'
def LRP (R G d : Nat) (ws : List (List UInt8)) (m : Nat) (w : World) (e : Ending) (w' : World) : Prop := ∃ r, PL d ws m r ∧ w.grownBy w' (some R) ∧ LResP R G w w' e r
def ListP (N : Nat) : Prop := ∀ (ws : List (List UInt8)) (d m R G : Nat) (w : World), ws.length < N → d ≤ 6 → m ≤ 128 → WW ws → RP w R G ws m →
  Calls Try.prog 19 #[.pointer (some ⟨R, 0, none⟩), .int .i64 d] w fun e w' => LRP R G d ws m w e w'
/-- Where the page's block has come to. -/
structure LP (R G d : Nat) (ws0 : List (List UInt8)) (m0 : Nat) (w : World) (ws : List (List UInt8)) (m : Nat) (v : Value) (wr : World) : Prop where
  own : ∃ acc, OwnF w.heap.size wr v acc ∧ acc.len ≤ m ∧ ∀ r, PL d ws m r → PL d ws0 m0 (r.pre acc)
  grown : w.grownBy wr (some R)
  rb : RP wr R G ws m
  ww : WW ws
  many : m ≤ 128
/-- One op more. -/
theorem lp_next {R G d m0 m' : Nat} {ws0 ws' : List (List UInt8)} {w W4 w3 : World} {v v3 sv : Value} {acc bb : Fo} {l : List Ro} {k n : Int} (hRl : R < w.heap.size) (hGl : G < w.heap.size)
    (hol : W4.ownsRow w.heap.size 38 3 v l.length (flatO l)) (hrl : Rows' (QX w.heap.size v) W4 l acc) (hg4 : w.grownBy W4 (some R)) (hr4 : RP W4 R G ws' m') (hww : WW ws') (hm : m' ≤ 128) (hacc : acc.len + 1 ≤ m')
    (hpl : ∀ r, PL d ws' m' r → PL d ws0 m0 (r.pre (acc.app (one k n bb)))) (hin : FS (QX w.heap.size v) (W4.alloc (.cells #[.int .i64 k, .int .i64 n, sv] 38)) sv bb)
    (hown3 : w3.ownsRow w.heap.size 38 3 v3 (l.length + 1) (flatO l ++ [.int .i64 k, .int .i64 n, sv])) (hgrow3 : (W4.alloc (.cells #[.int .i64 k, .int .i64 n, sv] 38)).grownBy w3 v.ownBlock)
    (hat3 : v3.ownBlock = v.ownBlock ∨ v3.ownBlock = some (W4.alloc (.cells #[.int .i64 k, .int .i64 n, sv] 38)).heap.size) : LP R G d ws0 m0 w ws' m' v3 w3 := by
  have H3 := (Below.refl W4.heap.size W4).alloc (Nat.le_refl _) (.cells #[.int .i64 k, .int .i64 n, sv] 38)
  have hs4 := hg4.size
  have hnew := OwnF.snoc (owns_below hol H3) (rows_below hrl H3) hin hown3 hgrow3 hat3
  have hgn : w.grownBy w3 (some R) := by
    have hg3 := hg4.trans (grownBy_below H3 (some R))
    refine ⟨hgrow3.os.trans hg3.os, hgrow3.tape.trans hg3.tape, hgrow3.output.trans hg3.output, Nat.le_trans hg3.size hgrow3.size, fun j hj hne => (hgrow3.block j (by simp; omega) (fun e => ?_)).trans (hg3.block j hj hne)⟩
    have := own_row hol j e.symm
    omega
  have hob : ∀ j, j < w.heap.size → w3.heap[j]? = W4.heap[j]? := fun j hj => (hgrow3.block j (by simp; omega) (fun e => by have := own_row hol j e.symm; omega)).trans (H3.block j (by omega))
  exact ⟨⟨_, hnew, by rw [Fo.len_app]; simp only [Fo.len]; omega, hpl⟩, hgn, hr4.keep (hob R hRl) (hob G hGl) (by have := hgrow3.size; simp at this; omega), hww, hm⟩
/-- The op's box, and the reader. -/
structure Bx (R G b : Nat) (ws : List (List UInt8)) (m : Nat) (k n : Int) (sv : Value) (wr W : World) : Prop where
  rp : RP W R G ws m
  blk : BlkO W b k n sv
  neR : b ≠ R
  neG : b ≠ G
  gr : wr.grownBy W (some R)
  sz : wr.heap.size ≤ b
theorem BlkO.put1 {W : World} {b : Nat} {k n : Int} {v : Value} (h : BlkO W b k n v) (n' : Int) : BlkO (W.setCell ⟨b, 1, none⟩ (.int .i64 n')) b k n' v := by
  unfold BlkO at h ⊢
  simp only [World.setCell, Array.getElem?_modify, h]
  simp
theorem BlkO.put0 {W : World} {b : Nat} {k n : Int} {v : Value} (h : BlkO W b k n v) (k' : Int) : BlkO (W.setCell ⟨b, 0, none⟩ (.int .i64 k')) b k' n v := by
  unfold BlkO at h ⊢
  simp only [World.setCell, Array.getElem?_modify, h]
  simp
theorem Bx.new {R G m : Nat} {ws : List (List UInt8)} {wr W : World} (hr : RP W R G ws m) (hg : wr.grownBy W (some R)) (k n : Int) (sv : Value) : Bx R G W.heap.size ws m k n sv wr (W.alloc (.cells #[.int .i64 k, .int .i64 n, sv] 38)) :=
  ⟨hr.below ((Below.refl _ _).alloc (Nat.le_refl _) _), BlkO.new _ _ _ _, by have := hr.lt; omega, by have := hr.2.1; omega, galloc hg _, hg.size⟩
theorem Bx.set1 {R G b m : Nat} {ws : List (List UInt8)} {k n : Int} {sv : Value} {wr W : World} (h : Bx R G b ws m k n sv wr W) (n' : Int) : Bx R G b ws m k n' sv wr (W.setCell ⟨b, 1, none⟩ (.int .i64 n')) :=
  ⟨h.rp.set h.neR h.neG _, h.blk.put1 n', h.neR, h.neG, gset h.gr h.sz _, h.sz⟩
theorem Bx.set0 {R G b m : Nat} {ws : List (List UInt8)} {k n : Int} {sv : Value} {wr W : World} (h : Bx R G b ws m k n sv wr W) (k' : Int) : Bx R G b ws m k' n sv wr (W.setCell ⟨b, 0, none⟩ (.int .i64 k')) :=
  ⟨h.rp.set h.neR h.neG _, h.blk.put0 k', h.neR, h.neG, gset h.gr h.sz _, h.sz⟩
theorem Bx.set2 {R G b m : Nat} {ws : List (List UInt8)} {k n : Int} {sv : Value} {wr W : World} (h : Bx R G b ws m k n sv wr W) (sv' : Value) : Bx R G b ws m k n sv' wr (W.setCell ⟨b, 2, none⟩ sv') :=
  ⟨h.rp.set h.neR h.neG _, h.blk.put2 sv', h.neR, h.neG, gset h.gr h.sz _, h.sz⟩
theorem Bx.setM {R G b m : Nat} {ws : List (List UInt8)} {k n : Int} {sv : Value} {wr W : World} (h : Bx R G b ws m k n sv wr W) : Bx R G b ws (m + 1) k n sv wr (W.setCell ⟨R, 1, none⟩ (.int .i64 ((m : Int) + 1))) := by
  have := rp_many h.rp (m + 1)
  rw [show ((m + 1 : Nat) : Int) = (m : Int) + 1 by omega] at this
  exact ⟨this, h.blk.set h.neR _, h.neR, h.neG, gsetR h.gr _, h.sz⟩
theorem Bx.call {R G b m : Nat} {ws : List (List UInt8)} {k n : Int} {sv : Value} {wr W W' : World} (h : Bx R G b ws m k n sv wr W) (hb : Below W.heap.size W W') : Bx R G b ws m k n sv wr W' :=
  ⟨h.rp.below hb, h.blk.step hb, h.neR, h.neG, gbel h.gr hb, h.sz⟩
theorem Bx.deep {R G b m m' : Nat} {ws ws' : List (List UInt8)} {k n : Int} {sv : Value} {wr W W' : World} (h : Bx R G b ws m k n sv wr W) (hg : W.grownBy W' (some R)) (hr : RP W' R G ws' m') : Bx R G b ws' m' k n sv wr W' :=
  ⟨hr, h.blk.grown hg h.neR, h.neR, h.neG, h.gr.trans hg, h.sz⟩
theorem Bx.pop {R G b m : Nat} {x : List UInt8} {ws : List (List UInt8)} {k n : Int} {sv : Value} {wr W : World} (h : Bx R G b (x :: ws) m k n sv wr W) : ∃ o cap, W.cell? ⟨R, 0, none⟩ = some (.slice (some ⟨G, o, none⟩) (ws.length + 1) cap) ∧ W.cell? ⟨G, o, none⟩ = some (.string (ba x)) ∧ ws.length + 1 ≤ cap ∧ W.frozen? ⟨R, 0, none⟩ = false ∧
    ∀ a' cap', (ws = [] ∨ a' = some ⟨G, o + 1, none⟩) → ws.length ≤ cap' → Bx R G b ws m k n sv wr (W.setCell ⟨R, 0, none⟩ (.slice a' ws.length cap')) := by
  obtain ⟨o, cap, c0, c1, hc, f0, hp⟩ := h.rp.pop
  refine ⟨o, cap, c0, c1, hc, f0, fun a' cap' h1 h2 => ?_⟩
  obtain ⟨hg, hr⟩ := hp a' cap' h1 h2
  exact h.deep hg hr
theorem Bx.own {R G b m lo : Nat} {ws : List (List UInt8)} {k n : Int} {sv v : Value} {acc : Fo} {wr W : World} (h : Bx R G b ws m k n sv wr W) (hR : R < lo) (ho : OwnF lo wr v acc) : OwnF lo W v acc :=
  ho.keep fun j hj hlt => h.gr.block j hlt (fun e => by injection e; omega)
/-- The cells that are read and written. -/
theorem Bx.cells {R G b m : Nat} {ws : List (List UInt8)} {k n : Int} {sv : Value} {wr W : World} (h : Bx R G b ws m k n sv wr W) : (W.cell? ⟨R, 1, none⟩ = some (.int .i64 m) ∧ W.frozen? ⟨R, 1, none⟩ = false) ∧ (W.cell? ⟨b, 0, none⟩ = some (.int .i64 k) ∧ W.cell? ⟨b, 1, none⟩ = some (.int .i64 n) ∧ W.cell? ⟨b, 2, none⟩ = some sv) ∧ (W.frozen? ⟨b, 0, none⟩ = false ∧ W.frozen? ⟨b, 1, none⟩ = false ∧ W.frozen? ⟨b, 2, none⟩ = false) := ⟨h.rp.cell1, h.blk.cells, h.blk.free⟩
theorem opW_numR {l : List UInt8} {n : Int} (h : numOf l = some n) : opW l = some (1, n) := by unfold opW; rw [num_no_kind h, h]; rfl
theorem new3s {w : World} {s : Nat} (h : w.heap.size = s) (x y z : Value) (T : TypeId) : (w.alloc (.cells #[x, y, z] T)).heap[s]? = some (.cells #[x, y, z] T (0, 0)) := by subst h; exact heap_alloc_new w _
/-- Which kind a word is of, by the page's table. -/
theorem kind_foundR {x : List UInt8} {k : Nat} (hk : k < 29) (h : tab.getD (k + 2) [] = x) (hn : numOf x = none) : opW x = some ((k : Int) + 2, 0) := by
  have := kindOf_tab ⟨k + 2, by omega⟩ (by show 2 ≤ k + 2; omega)
  simp only at this
  rw [h] at this
  unfold opW
  rw [this]
  simp
theorem kind_noneR {x : List UInt8} (hx : x ≠ []) (h : ∀ j, j < 29 → tab.getD (j + 2) [] ≠ x) (hn : numOf x = none) : opW x = none := by
  unfold opW
  cases hk : kindOf x with
  | none => rw [hn]; rfl
  | some k =>
    obtain ⟨h1, h2⟩ := kindOf_lt hk
    rcases k with _ | _ | k
    · exact absurd h2.symm hx
    · exact absurd h2.symm hx
    · exact absurd h2 (h k (by omega))
end Go.Proofs.Ytjegnffhegiajaa
