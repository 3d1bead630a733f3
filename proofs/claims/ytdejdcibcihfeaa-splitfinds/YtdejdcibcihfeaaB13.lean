/- Splits in memory: an ID, a text, a slice of sites; a configuration. -/
import Derived.Test.YtdejdcibcihfeaaB8
import Derived.Test.YtdejdcibcihfeaaB9
import Derived.Test.YtdejdcibcihfeaaB12
namespace Go.Proofs.Ytdejdcibcihfeaa
open Go.RowKit
set_option linter.unusedVariables false
set_option maxRecDepth 100000

theorem hidM {p : Prop} (h : p) : Hid p := h
theorem nxt {a b c : World} (h : Below a.heap.size a b) (k : Below b.heap.size b c) : Below a.heap.size a c := h.trans (k.mono h.size)
def SpAt (w : World) (b o : Nat) (s : Sp) : Prop := w.cell? ⟨b, o, none⟩ = some (.int .i64 s.1) ∧ w.cell? ⟨b, o + 1, none⟩ = some (.string s.2.1) ∧
    ∃ a cap, w.cell? ⟨b, o + 2, none⟩ = some (.slice a s.2.2.length cap) ∧ NS w (.slice a s.2.2.length cap) s.2.2 ∧ s.2.2.length ≤ cap
def SpsAt (w : World) (b off : Nat) (l : List Sp) : Prop := ∀ (i : Nat) (s : Sp), l[i]? = some s → SpAt w b (off + i * 3) s
/-- The slice v holds the splits l. -/
def PS (w : World) (v : Value) (l : List Sp) : Prop := ∃ a cap, v = .slice a l.length cap ∧ (l = [] ∨ ∃ b off, a = some ⟨b, off, none⟩ ∧ b < w.heap.size ∧ SpsAt w b off l)
theorem SpAt.below {w w' : World} {b o : Nat} {s : Sp} (h : SpAt w b o s) (hb : Below w.heap.size w w') (hlt : b < w.heap.size) : SpAt w' b o s := by
  obtain ⟨h0, h1, a, cap, h2, h3, h4⟩ := h
  exact ⟨(hb.cell (p := ⟨b, _, none⟩) hlt).trans h0, (hb.cell (p := ⟨b, _, none⟩) hlt).trans h1, a, cap, (hb.cell (p := ⟨b, _, none⟩) hlt).trans h2, h3.below hb, h4⟩
theorem SpsAt.below {w w' : World} {b off : Nat} {l : List Sp} (h : SpsAt w b off l) (hb : Below w.heap.size w w') (hlt : b < w.heap.size) : SpsAt w' b off l := fun i s hs => (h i s hs).below hb hlt
theorem PS.below {w w' : World} {v : Value} {l : List Sp} (h : PS w v l) (hb : Below w.heap.size w w') : PS w' v l := by
  obtain ⟨a, cap, rfl, h⟩ := h
  refine ⟨a, cap, rfl, ?_⟩
  rcases h with h | ⟨b, off, rfl, hlt, h⟩
  · exact .inl h
  · exact .inr ⟨b, off, rfl, Nat.lt_of_lt_of_le hlt hb.size, h.below hb hlt⟩
/-- Numbers that an int64 holds, texts and rows that may be. -/
structure WfSp (s : Sp) : Prop where
  id : -9223372036854775808 ≤ s.1 ∧ s.1 ≤ 9223372036854775807
  txt : s.2.1.size ≤ 140737488351232
  len : s.2.2.length ≤ 17592186043904
  num : ∀ x ∈ s.2.2, -9223372036854775808 ≤ x ∧ x ≤ 9223372036854775807
/-- The value of a configuration whose splits lie in v. -/
abbrev cfgV (c : Cfg) (v : Value) : Value := .agg #[.int .i64 c.sites, v, .int .i64 c.again, .int .i64 c.over]
structure InC (W : World) (c : Cfg) (v : Value) : Prop where
  sites : -9223372036854775808 ≤ c.sites ∧ c.sites ≤ 9223372036854775807
  again : -9223372036854775808 ≤ c.again ∧ c.again ≤ 9223372036854775807
  over : -9223372036854775808 ≤ c.over ∧ c.over ≤ 9223372036854775807
  ps : PS W v c.splits
  len : c.splits.length ≤ 17592186043904
  wf : ∀ s ∈ c.splits, WfSp s
theorem InC.below {W W' : World} {c : Cfg} {v : Value} (h : InC W c v) (hb : Below W.heap.size W W') : InC W' c v := ⟨h.sites, h.again, h.over, h.ps.below hb, h.len, h.wf⟩
/-- The block of a configuration. -/
def BlkF (W : World) (b : Nat) (x0 x1 x2 x3 : Value) : Prop := W.heap[b]? = some (.cells #[x0, x1, x2, x3] 24 (0, 0))
theorem BlkF.new (W : World) (x0 x1 x2 x3 : Value) : BlkF (W.alloc (.cells #[x0, x1, x2, x3] 24)) W.heap.size x0 x1 x2 x3 := heap_alloc_new W _
theorem BlkF.lt {W : World} {b : Nat} {x0 x1 x2 x3 : Value} (h : BlkF W b x0 x1 x2 x3) : b < W.heap.size := (Array.getElem?_eq_some_iff.1 h).1
theorem BlkF.below {W W' : World} {b : Nat} {x0 x1 x2 x3 : Value} (h : BlkF W b x0 x1 x2 x3) (hb : Below W.heap.size W W') : BlkF W' b x0 x1 x2 x3 := by unfold BlkF; rw [hb.block b h.lt]; exact h
theorem BlkF.cells {W : World} {b : Nat} {x0 x1 x2 x3 : Value} (h : BlkF W b x0 x1 x2 x3) : W.cell? ⟨b, 0, none⟩ = some x0 ∧ W.cell? ⟨b, 1, none⟩ = some x1 ∧ W.cell? ⟨b, 2, none⟩ = some x2 ∧ W.cell? ⟨b, 3, none⟩ = some x3 := by
  unfold BlkF at h
  refine ⟨?_, ?_, ?_, ?_⟩ <;> simp [World.cell?, h]
/-- The block of a split. -/
def BlkP (W : World) (b : Nat) (x0 x1 x2 : Value) : Prop := W.heap[b]? = some (.cells #[x0, x1, x2] 35 (0, 0))
theorem BlkP.new (W : World) (x0 x1 x2 : Value) : BlkP (W.alloc (.cells #[x0, x1, x2] 35)) W.heap.size x0 x1 x2 := heap_alloc_new W _
theorem BlkP.lt {W : World} {b : Nat} {x0 x1 x2 : Value} (h : BlkP W b x0 x1 x2) : b < W.heap.size := (Array.getElem?_eq_some_iff.1 h).1
theorem BlkP.below {W W' : World} {b : Nat} {x0 x1 x2 : Value} (h : BlkP W b x0 x1 x2) (hb : Below W.heap.size W W') : BlkP W' b x0 x1 x2 := by unfold BlkP; rw [hb.block b h.lt]; exact h
theorem BlkP.cells {W : World} {b : Nat} {x0 x1 x2 : Value} (h : BlkP W b x0 x1 x2) : W.cell? ⟨b, 0, none⟩ = some x0 ∧ W.cell? ⟨b, 1, none⟩ = some x1 ∧ W.cell? ⟨b, 2, none⟩ = some x2 := by
  unfold BlkP at h
  refine ⟨?_, ?_, ?_⟩ <;> simp [World.cell?, h]
theorem BlkP.free {W : World} {b : Nat} {x0 x1 x2 : Value} (h : BlkP W b x0 x1 x2) (o : Nat) : W.frozen? ⟨b, o, none⟩ = false := by
  unfold BlkP at h
  simp [World.frozen?, h]
theorem BlkP.put {W : World} {b : Nat} {x0 x1 x2 : Value} (h : BlkP W b x0 x1 x2) (y0 y1 y2 : Value) : BlkP (((W.setCell ⟨b, 0, none⟩ y0).setCell ⟨b, 1, none⟩ y1).setCell ⟨b, 2, none⟩ y2) b y0 y1 y2 := by
  unfold BlkP at h ⊢
  rw [heap_setCell_same _ b 2 _ 35 y2 (heap_setCell_same _ b 1 _ 35 y1 (heap_setCell_same W b 0 _ 35 y0 h))]
  rfl
end Go.Proofs.Ytdejdcibcihfeaa
