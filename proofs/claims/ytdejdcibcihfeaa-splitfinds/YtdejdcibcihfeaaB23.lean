/- Contracts: rec.Bytes, rec.Take, and the page's own. -/
import Derived.Test.YtdejdcibcihfeaaB22
import Derived.Test.YtdejdcibcihfeaaB7
namespace Go.Proofs.Ytdejdcibcihfeaa
open Go.RowKit
set_option linter.unusedVariables false
set_option maxRecDepth 100000

/-- A record in a box of its own. -/
def BoxR (W : World) (b : Nat) (x : Rc) : Prop := b < W.heap.size ∧ W.cell? ⟨b, 0, none⟩ = some (.int .i64 x.1.1) ∧ W.cell? ⟨b, 1, none⟩ = some (.string x.1.2) ∧ W.cell? ⟨b, 2, none⟩ = some (.int .i64 x.2)
theorem BoxR.step {W W' : World} {b : Nat} {x : Rc} (h : BoxR W b x) (hw : Below W.heap.size W W') : BoxR W' b x :=
  ⟨Nat.lt_of_lt_of_le h.1 hw.size, (hw.cell (p := ⟨b, 0, none⟩) h.1).trans h.2.1, (hw.cell (p := ⟨b, 1, none⟩) h.1).trans h.2.2.1, (hw.cell (p := ⟨b, 2, none⟩) h.1).trans h.2.2.2⟩
theorem BoxR.new (W : World) (a : Int) (s : ByteArray) (v : Int) (T : TypeId) : BoxR (W.alloc (.cells #[.int .i64 a, .string s, .int .i64 v] T)) W.heap.size ((a, s), v) :=
  ⟨by simp, by unfold World.cell?; rw [(MapKept.heap_alloc W _).1]; rfl, by unfold World.cell?; rw [(MapKept.heap_alloc W _).1]; rfl, by unfold World.cell?; rw [(MapKept.heap_alloc W _).1]; rfl⟩
theorem bel_new (W : World) (o : Obj) : Below W.heap.size W (W.alloc o) := (Below.refl _ _).alloc (Nat.le_refl _) _
theorem bel_next {w W W' : World} (h : Below w.heap.size w W) (hb : Below W.heap.size W W') : Below w.heap.size w W' := h.trans (hb.mono h.size)

theorem loadR {W : World} {b : Nat} {a v : Int} {s : ByteArray} (h0 : W.cell? ⟨b, 0, none⟩ = some (.int .i64 a)) (h1 : W.cell? ⟨b, 1, none⟩ = some (.string s)) (h2 : W.cell? ⟨b, 2, none⟩ = some (.int .i64 v)) :
    (loadVar 62 ⟨b, 0, none⟩).run Try.prog W = .ok (.agg #[.int .i64 a, .string s, .int .i64 v]) W := by
  have a30 := Try.isAgg62
  have z30 := Try.sizeOf62
  have hc := run_loadCells_list (P := Try.prog) W ⟨b, 0, none⟩ [.int .i64 a, .string s, .int .i64 v] (fun j v hj => by
    match j, hj with
    | 0, hj => simp at hj; subst hj; simpa [Addr.add] using h0
    | 1, hj => simp at hj; subst hj; simpa [Addr.add] using h1
    | 2, hj => simp at hj; subst hj; simpa [Addr.add] using h2)
  simp [loadVar, a30, z30]
  have hc' : (loadCells ⟨b, 0, none⟩ 3).run Try.prog W = .ok #[.int .i64 a, .string s, .int .i64 v] W := hc
  rw [hc']
  rfl

/-- A record's box that may be written. -/
def BlkR (W : World) (b : Nat) (x : Rc) : Prop := W.heap[b]? = some (.cells #[.int .i64 x.1.1, .string x.1.2, .int .i64 x.2] 62 (0, 0))
theorem BlkR.new (W : World) (a : Int) (s : ByteArray) (v : Int) : BlkR (W.alloc (.cells #[.int .i64 a, .string s, .int .i64 v] 62)) W.heap.size ((a, s), v) := (MapKept.heap_alloc W _).1
theorem BlkR.lt {W : World} {b : Nat} {x : Rc} (h : BlkR W b x) : b < W.heap.size := (Array.getElem?_eq_some_iff.1 h).1
theorem BlkR.step {W W' : World} {b : Nat} {x : Rc} (h : BlkR W b x) (hw : Below W.heap.size W W') : BlkR W' b x := by unfold BlkR; rw [hw.block b h.lt]; exact h
theorem BlkR.cells {W : World} {b : Nat} {x : Rc} (h : BlkR W b x) : W.cell? ⟨b, 0, none⟩ = some (.int .i64 x.1.1) ∧ W.cell? ⟨b, 1, none⟩ = some (.string x.1.2) ∧ W.cell? ⟨b, 2, none⟩ = some (.int .i64 x.2) := by
  unfold BlkR at h
  refine ⟨?_, ?_, ?_⟩ <;> simp [World.cell?, h]
theorem BlkR.free {W : World} {b : Nat} {x : Rc} (h : BlkR W b x) : W.frozen? ⟨b, 0, none⟩ = false ∧ W.frozen? ⟨b, 1, none⟩ = false ∧ W.frozen? ⟨b, 2, none⟩ = false := by
  unfold BlkR at h
  refine ⟨?_, ?_, ?_⟩ <;> simp [World.frozen?, h]
theorem BlkR.put {W : World} {b : Nat} {x : Rc} (h : BlkR W b x) (a : Int) (s : ByteArray) (v : Int) :
    BlkR (((W.setCell ⟨b, 0, none⟩ (.int .i64 a)).setCell ⟨b, 1, none⟩ (.string s)).setCell ⟨b, 2, none⟩ (.int .i64 v)) b ((a, s), v) := by
  unfold BlkR at h ⊢
  simp only [World.setCell, Array.getElem?_modify, h]
  simp
theorem bel_put {w W : World} {b : Nat} (h : Below w.heap.size w W) (hb : w.heap.size ≤ b) (u0 u1 u2 : Value) :
    Below w.heap.size w (((W.setCell ⟨b, 0, none⟩ u0).setCell ⟨b, 1, none⟩ u1).setCell ⟨b, 2, none⟩ u2) :=
  ((h.setCell (p := ⟨b, 0, none⟩) hb _).setCell (p := ⟨b, 1, none⟩) hb _).setCell (p := ⟨b, 2, none⟩) hb _
theorem BlkR.ret {fn : Func} {t u v : Tmp} {W : World} {b : Nat} {x : Rc} (hB : BlkR W b x) (h : fn.results = #[.cell t 62, .tmp u, .tmp v]) {tmps : Array Value} (hp : tmps.getD t undef = .pointer (some ⟨b, 0, none⟩)) :
    (results fn tmps).run Try.prog W = .ok (.tuple #[.agg #[.int .i64 x.1.1, .string x.1.2, .int .i64 x.2], tmps.getD u undef, tmps.getD v undef]) W :=
  results_cell3 h hp (loadR hB.cells.1 hB.cells.2.1 hB.cells.2.2)
set_option maxHeartbeats 400000 in
theorem rectake_any (s : ByteArray) (w : World) (hs : s.size ≤ maxLen) :
    Calls Try.prog 32 #[.string s] w fun e w' => e = .returned (.tuple #[.agg #[.int .i64 (rTake s).1.1.1, .string (rTake s).1.1.2, .int .i64 (rTake s).1.2], .int .i64 (rTake s).2.1, .int .i64 (rTake s).2.2]) ∧ Below w.heap.size w w' := by
  have hk := fun W => ktake_any s W hs
  unfold rTake
  obtain ⟨⟨ka, kb⟩, n, e, he⟩ : ∃ k n e, kTake s = (k, n, e) := ⟨_, _, _, rfl⟩
  have hq := @kq s (ka, kb) n
  rw [he] at hq hk ⊢
  simp only at hk ⊢
  clear he
  have hw0 := bel_new w (.cells #[.int .i64 0, .string ⟨#[]⟩, .int .i64 0] 62)
  by_cases h0 : e = 0
  · subst h0
    obtain ⟨q, rfl, hq1, hq2⟩ := hq rfl
    clear hq
    simp only [ne_eq, not_true_eq_false, if_false]
    have hx := fun W => take_any (s.extract q s.size) W (by rw [ByteArray.size_extract]; omega)
    simp only [from', Int.toNat_natCast]
    obtain ⟨v, m, f, hr⟩ : ∃ b k f, takeOf (s.extract q s.size) = (b, k, f) := ⟨_, _, _, rfl⟩
    have hq3 := @tq (s.extract q s.size) v m
    simp only [hr] at hx hq3 ⊢
    clear hr
    go_enter Try.func32, Try.ntmps32
    go_wp2_with fail
    refine (hk _).mono ?_
    rintro e w1 ⟨rfl, hb1⟩
    have hB1 := (BlkR.new w 0 ⟨#[]⟩ 0).step hb1
    have hw1 := bel_next hw0 hb1
    have hB2 := hB1.step (bel_new w1 (.cells #[.int .i64 ka, .string kb] 60))
    have hw2 := bel_next hw1 (bel_new w1 (.cells #[.int .i64 ka, .string kb] 60))
    clear hw0 hb1 hB1 hw1
    obtain ⟨c0, c1, c2⟩ := hB2.cells
    obtain ⟨f0, f1, f2⟩ := hB2.free
    obtain ⟨_, _, d0, d1⟩ := boxed w1 ka kb 60
    by_cases h1 : f = 0
    · subst h1
      obtain ⟨p, rfl, hp1, hp2, _⟩ := hq3 rfl
      go_wp2_with (go_at_call 36; refine (hx _).mono ?_; rintro e w' ⟨rfl, rfl⟩)
      exact bodyPost_ret ((hB2.put _ _ _).ret rfl rfl) rfl ⟨rfl, bel_put hw2 (Nat.le_refl _) _ _ _⟩
    · go_wp2_with (go_at_call 36; refine (hx _).mono ?_; rintro e w' ⟨rfl, rfl⟩)
      exact bodyPost_ret ((hB2.put _ _ _).ret rfl rfl) rfl ⟨rfl, bel_put hw2 (Nat.le_refl _) _ _ _⟩
  · simp only [ne_eq, h0, not_false_eq_true, if_true]
    go_enter Try.func32, Try.ntmps32
    go_wp2_with fail
    refine (hk _).mono ?_
    rintro e w1 ⟨rfl, hb1⟩
    have hB1 := (BlkR.new w 0 ⟨#[]⟩ 0).step hb1
    have hw1 := bel_next hw0 hb1
    have hB2 := hB1.step (bel_new w1 (.cells #[.int .i64 ka, .string kb] 60))
    have hw2 := bel_next hw1 (bel_new w1 (.cells #[.int .i64 ka, .string kb] 60))
    clear hw0 hb1 hB1 hw1
    obtain ⟨c0, c1, c2⟩ := hB2.cells
    obtain ⟨f0, f1, f2⟩ := hB2.free
    obtain ⟨_, _, d0, d1⟩ := boxed w1 ka kb 60
    go_wp2
    exact bodyPost_ret ((hB2.put _ _ _).ret rfl rfl) rfl ⟨rfl, bel_put hw2 (Nat.le_refl _) _ _ _⟩

set_option maxHeartbeats 400000 in
/-- The page's own TakeRec. -/
theorem rtakerec_any (s : ByteArray) (w : World) (hs : s.size ≤ maxLen) :
    Calls Try.prog 30 #[.string s] w fun e w' => e = .returned (.tuple #[.agg #[.int .i64 (rTake s).1.1.1, .string (rTake s).1.1.2, .int .i64 (rTake s).1.2], .int .i64 (rTake s).2.1, .int .i64 (rTake s).2.2]) ∧ Below w.heap.size w w' := by
  have hk := fun W => rtake3_any s W hs
  unfold rTake
  obtain ⟨⟨ka, kb⟩, n, e, he⟩ : ∃ k n e, kTake s = (k, n, e) := ⟨_, _, _, rfl⟩
  have hq := @kq s (ka, kb) n
  rw [he] at hq hk ⊢
  simp only at hk ⊢
  clear he
  have hw0 := bel_new w (.cells #[.int .i64 0, .string ⟨#[]⟩, .int .i64 0] 62)
  by_cases h0 : e = 0
  · subst h0
    obtain ⟨q, rfl, hq1, hq2⟩ := hq rfl
    clear hq
    simp only [ne_eq, not_true_eq_false, if_false]
    have hx := fun W => rtake_any (s.extract q s.size) W (by rw [ByteArray.size_extract]; omega)
    simp only [from', Int.toNat_natCast]
    obtain ⟨v, m, f, hr⟩ : ∃ b k f, takeOf (s.extract q s.size) = (b, k, f) := ⟨_, _, _, rfl⟩
    have hq3 := @tq (s.extract q s.size) v m
    simp only [hr] at hx hq3 ⊢
    clear hr
    go_enter Try.func30, Try.ntmps30
    go_wp2_with fail
    refine (hk _).mono ?_
    rintro e w1 ⟨rfl, hb1⟩
    have hB1 := (BlkR.new w 0 ⟨#[]⟩ 0).step hb1
    have hw1 := bel_next hw0 hb1
    have hB2 := hB1.step (bel_new w1 (.cells #[.int .i64 ka, .string kb] 60))
    have hw2 := bel_next hw1 (bel_new w1 (.cells #[.int .i64 ka, .string kb] 60))
    clear hw0 hb1 hB1 hw1
    obtain ⟨c0, c1, c2⟩ := hB2.cells
    obtain ⟨f0, f1, f2⟩ := hB2.free
    obtain ⟨_, _, d0, d1⟩ := boxed w1 ka kb 60
    by_cases h1 : f = 0
    · subst h1
      obtain ⟨p, rfl, hp1, hp2, _⟩ := hq3 rfl
      go_wp2_with (go_at_call 34; refine (hx _).mono ?_; rintro e w' ⟨rfl, rfl⟩)
      exact bodyPost_ret ((hB2.put _ _ _).ret rfl rfl) rfl ⟨rfl, bel_put hw2 (Nat.le_refl _) _ _ _⟩
    · go_wp2_with (go_at_call 34; refine (hx _).mono ?_; rintro e w' ⟨rfl, rfl⟩)
      exact bodyPost_ret ((hB2.put _ _ _).ret rfl rfl) rfl ⟨rfl, bel_put hw2 (Nat.le_refl _) _ _ _⟩
  · simp only [ne_eq, h0, not_false_eq_true, if_true]
    go_enter Try.func30, Try.ntmps30
    go_wp2_with fail
    refine (hk _).mono ?_
    rintro e w1 ⟨rfl, hb1⟩
    have hB1 := (BlkR.new w 0 ⟨#[]⟩ 0).step hb1
    have hw1 := bel_next hw0 hb1
    have hB2 := hB1.step (bel_new w1 (.cells #[.int .i64 ka, .string kb] 60))
    have hw2 := bel_next hw1 (bel_new w1 (.cells #[.int .i64 ka, .string kb] 60))
    clear hw0 hb1 hB1 hw1
    obtain ⟨c0, c1, c2⟩ := hB2.cells
    obtain ⟨f0, f1, f2⟩ := hB2.free
    obtain ⟨_, _, d0, d1⟩ := boxed w1 ka kb 60
    go_wp2
    exact bodyPost_ret ((hB2.put _ _ _).ret rfl rfl) rfl ⟨rfl, bel_put hw2 (Nat.le_refl _) _ _ _⟩

theorem keepR {w W w' : World} {a v : Int} {b : ByteArray} (h : W.cell? ⟨w.heap.size, 0, none⟩ = some (.int .i64 a) ∧ W.cell? ⟨w.heap.size, 1, none⟩ = some (.string b) ∧ W.cell? ⟨w.heap.size, 2, none⟩ = some (.int .i64 v) ∧ w.heap.size < W.heap.size ∧ Below w.heap.size w W) (hb : Below W.heap.size W w') :
    w'.cell? ⟨w.heap.size, 0, none⟩ = some (.int .i64 a) ∧ w'.cell? ⟨w.heap.size, 1, none⟩ = some (.string b) ∧ w'.cell? ⟨w.heap.size, 2, none⟩ = some (.int .i64 v) ∧ w.heap.size < w'.heap.size ∧ Below w.heap.size w w' := by
  obtain ⟨h0, h1, h2, h3, h4⟩ := h
  exact ⟨(hb.cell (p := ⟨w.heap.size, 0, none⟩) h3).trans h0, (hb.cell (p := ⟨w.heap.size, 1, none⟩) h3).trans h1, (hb.cell (p := ⟨w.heap.size, 2, none⟩) h3).trans h2, Nat.lt_of_lt_of_le h3 hb.size, bel_next h4 hb⟩
theorem startR (w : World) (a v : Int) (b : ByteArray) (T : TypeId) :
    (w.alloc (.cells #[.int .i64 a, .string b, .int .i64 v] T)).drew.cell? ⟨w.heap.size, 0, none⟩ = some (.int .i64 a) ∧ (w.alloc (.cells #[.int .i64 a, .string b, .int .i64 v] T)).drew.cell? ⟨w.heap.size, 1, none⟩ = some (.string b) ∧
      (w.alloc (.cells #[.int .i64 a, .string b, .int .i64 v] T)).drew.cell? ⟨w.heap.size, 2, none⟩ = some (.int .i64 v) ∧ w.heap.size < (w.alloc (.cells #[.int .i64 a, .string b, .int .i64 v] T)).drew.heap.size ∧ Below w.heap.size w (w.alloc (.cells #[.int .i64 a, .string b, .int .i64 v] T)).drew :=
  ⟨(BoxR.new w a b v T).2.1, (BoxR.new w a b v T).2.2.1, (BoxR.new w a b v T).2.2.2, (BoxR.new w a b v T).1, (bel_new w _).drew⟩

end Go.Proofs.Ytdejdcibcihfeaa
