/- Texts laid together: MLawM, MIn13, LawLM, LawLS, MOpen. -/
import Derived.Test.YtaagllbcmgnbnaaGreatDoorMB49
import Derived.Test.YtaagllbcmgnbnaaGreatDoorMB41
import Derived.Test.YtaagllbcmgnbnaaGreatDoorMB50
/- What the six laws of one way call: job, Heavy. -/
namespace Go.Proofs.YtaagllbcmgnbnaaGreatDoor
open Go.RowKit
set_option linter.unusedVariables false
set_option maxRecDepth 100000

theorem jobLoad {W : World} {b : Nat} {j : Jb} {v : Value} (h : BlkJ W b j v) : (loadVar 51 ⟨b, 0, none⟩).run Tryz.prog W = .ok (jobV j v) W := by
  obtain ⟨h0, h1, h2, h3, h4, h5, h6⟩ := h.cells
  have a30 := Tryz.isAgg51
  have z30 := Tryz.sizeOf51
  have hc := run_loadCells_list (P := Tryz.prog) W ⟨b, 0, none⟩ [.int .i64 j.id, .string j.prog, .int .i64 j.agg, .int .i64 j.bound, .int .i64 j.fuel, v, .int .i64 j.parts] (fun i u hi => by
    match i, hi with
    | 0, hi => simp at hi; subst hi; simpa [Addr.add] using h0
    | 1, hi => simp at hi; subst hi; simpa [Addr.add] using h1
    | 2, hi => simp at hi; subst hi; simpa [Addr.add] using h2
    | 3, hi => simp at hi; subst hi; simpa [Addr.add] using h3
    | 4, hi => simp at hi; subst hi; simpa [Addr.add] using h4
    | 5, hi => simp at hi; subst hi; simpa [Addr.add] using h5
    | 6, hi => simp at hi; subst hi; simpa [Addr.add] using h6)
  simp [loadVar, a30, z30]
  have hc' : (loadCells ⟨b, 0, none⟩ 7).run Tryz.prog W = .ok #[.int .i64 j.id, .string j.prog, .int .i64 j.agg, .int .i64 j.bound, .int .i64 j.fuel, v, .int .i64 j.parts] W := hc
  rw [hc']
  rfl
theorem jweight_any (j : Jb) (a5 : Option Addr) (n5 c5 : Nat) (w : World) (hp : j.prog.size ≤ 140737488351232) (hn : n5 ≤ 17592186043904) :
    Calls Tryz.prog 100 #[jobV j (.slice a5 n5 c5)] w fun e w' => e = .returned (.int .i64 ((1 + j.prog.size + n5 : Nat) : Int)) ∧ Below w.heap.size w w' := by
  have hb := (Below.refl w.heap.size w).alloc (Nat.le_refl _) (.cells #[.int .i64 j.id, .string j.prog, .int .i64 j.agg, .int .i64 j.bound, .int .i64 j.fuel, .slice a5 n5 c5, .int .i64 j.parts] 51)
  obtain ⟨r0, r1, r2, r3, r4, r5, r6⟩ := (BlkJ.new w j (.slice a5 n5 c5)).cells
  have hw1 : IntKind.i64.wrap (1 + (j.prog.size : Int)) = ((1 + j.prog.size : Nat) : Int) := by rw [IntKind.wrap_i64]; omega
  have hw2 : IntKind.i64.wrap (((1 + j.prog.size : Nat) : Int) + (n5 : Int)) = ((1 + j.prog.size + n5 : Nat) : Int) := by rw [IntKind.wrap_i64]; omega
  go_enter Tryz.func100, Tryz.ntmps100
  go_wp2
  go_ret
  refine ⟨?_, hb⟩
  simp
set_option maxHeartbeats 800000 in
theorem heavy8x_any (vs vl vr vf : Value) (l : List ByteArray) (f : Fo) (lr : List Rc) (lf : List Int) (w : World) (h : In8 w vs vl vr vf l f lr lf) :
    Calls Tryz.prog 99 #[.agg #[vs, vl, vr, vf]] w fun e w' => (∃ r, e = .returned (.bool r) ∧ (r = false → lr.length ≤ 6000)) ∧ Below w.heap.size w w' := by
  have hA := AskE.start h
  have Hh := hidM (heavy_anyL vs vl l f _ hA.inn.s hA.inn.f)
  have HA := hidM hA
  obtain ⟨a, cap, hvs, _⟩ := h.s.1
  obtain ⟨a', cap', hvl⟩ := h.f.1.val
  obtain ⟨ar, capr, hvr, _⟩ := h.r.1
  obtain ⟨af, capf, hvf, _⟩ := h.n.1
  subst hvs hvl hvr hvf
  clear h hA
  go_enter Tryz.func99, Tryz.ntmps99
  go_wp2_with fail
  refine Hh.out.mono ?_
  rintro e w1 ⟨⟨r, rfl⟩, hb1⟩
  have hA1 := HA.out.call hb1
  have HA1 := hidM hA1
  obtain ⟨c0, c1, c2, c3⟩ := hA1.cells
  have Hw := hidM (rweight_anyE _ lr w1 hA1.inn.r.1 hA1.inn.r.2.1 hA1.inn.r.2.2)
  clear hA1 hb1 Hh
  cases r with
  | true =>
    go_wp2
    go_ret
    exact ⟨⟨_, rfl, fun h => by cases h⟩, HA1.out.out⟩
  | false =>
    go_wp2_with fail
    refine Hw.out.mono ?_
    rintro e w2 ⟨⟨z, rfl, hz⟩, rfl⟩
    by_cases hz6 : z ≤ 6000
    · have hd : decide ((6000 : Int) < z) = false := decide_eq_false (by omega)
      have hz7 : lr.length ≤ 6000 := by omega
      go_wp2
      go_ret
      exact ⟨⟨_, rfl, fun _ => hz7⟩, HA1.out.out⟩
    · have hd : decide ((6000 : Int) < z) = true := decide_eq_true (by omega)
      go_wp2
      go_ret
      exact ⟨⟨_, rfl, fun h => by simp at h⟩, HA1.out.out⟩
/-- The block of a job, cell by cell. -/
def Blk7 (W : World) (b : Nat) (x0 x1 x2 x3 x4 x5 x6 : Value) : Prop := W.heap[b]? = some (.cells #[x0, x1, x2, x3, x4, x5, x6] 51 (0, 0))
theorem Blk7.set0 {W : World} {b : Nat} {x0 x1 x2 x3 x4 x5 x6 : Value} (h : Blk7 W b x0 x1 x2 x3 x4 x5 x6) (y : Value) : Blk7 (W.setCell ⟨b, 0, none⟩ y) b y x1 x2 x3 x4 x5 x6 := by
  unfold Blk7 at h ⊢
  rw [heap_setCell_same W b 0 _ 51 y h]
  rfl
theorem Blk7.set1 {W : World} {b : Nat} {x0 x1 x2 x3 x4 x5 x6 : Value} (h : Blk7 W b x0 x1 x2 x3 x4 x5 x6) (y : Value) : Blk7 (W.setCell ⟨b, 1, none⟩ y) b x0 y x2 x3 x4 x5 x6 := by
  unfold Blk7 at h ⊢
  rw [heap_setCell_same W b 1 _ 51 y h]
  rfl
theorem Blk7.set2 {W : World} {b : Nat} {x0 x1 x2 x3 x4 x5 x6 : Value} (h : Blk7 W b x0 x1 x2 x3 x4 x5 x6) (y : Value) : Blk7 (W.setCell ⟨b, 2, none⟩ y) b x0 x1 y x3 x4 x5 x6 := by
  unfold Blk7 at h ⊢
  rw [heap_setCell_same W b 2 _ 51 y h]
  rfl
theorem Blk7.set3 {W : World} {b : Nat} {x0 x1 x2 x3 x4 x5 x6 : Value} (h : Blk7 W b x0 x1 x2 x3 x4 x5 x6) (y : Value) : Blk7 (W.setCell ⟨b, 3, none⟩ y) b x0 x1 x2 y x4 x5 x6 := by
  unfold Blk7 at h ⊢
  rw [heap_setCell_same W b 3 _ 51 y h]
  rfl
theorem Blk7.set4 {W : World} {b : Nat} {x0 x1 x2 x3 x4 x5 x6 : Value} (h : Blk7 W b x0 x1 x2 x3 x4 x5 x6) (y : Value) : Blk7 (W.setCell ⟨b, 4, none⟩ y) b x0 x1 x2 x3 y x5 x6 := by
  unfold Blk7 at h ⊢
  rw [heap_setCell_same W b 4 _ 51 y h]
  rfl
theorem Blk7.set5 {W : World} {b : Nat} {x0 x1 x2 x3 x4 x5 x6 : Value} (h : Blk7 W b x0 x1 x2 x3 x4 x5 x6) (y : Value) : Blk7 (W.setCell ⟨b, 5, none⟩ y) b x0 x1 x2 x3 x4 y x6 := by
  unfold Blk7 at h ⊢
  rw [heap_setCell_same W b 5 _ 51 y h]
  rfl
theorem Blk7.set6 {W : World} {b : Nat} {x0 x1 x2 x3 x4 x5 x6 : Value} (h : Blk7 W b x0 x1 x2 x3 x4 x5 x6) (y : Value) : Blk7 (W.setCell ⟨b, 6, none⟩ y) b x0 x1 x2 x3 x4 x5 y := by
  unfold Blk7 at h ⊢
  rw [heap_setCell_same W b 6 _ 51 y h]
  rfl
theorem Blk7.cell {W : World} {b : Nat} {x0 x1 x2 x3 x4 x5 x6 : Value} (h : Blk7 W b x0 x1 x2 x3 x4 x5 x6) : W.cell? ⟨b, 0, none⟩ = some x0 ∧ W.cell? ⟨b, 1, none⟩ = some x1 ∧ W.cell? ⟨b, 2, none⟩ = some x2 ∧ W.cell? ⟨b, 3, none⟩ = some x3 ∧ W.cell? ⟨b, 4, none⟩ = some x4 ∧ W.cell? ⟨b, 5, none⟩ = some x5 ∧ W.cell? ⟨b, 6, none⟩ = some x6 := by
  unfold Blk7 at h
  refine ⟨?_, ?_, ?_, ?_, ?_, ?_, ?_⟩ <;> simp [World.cell?, h]
theorem Blk7.free {W : World} {b : Nat} {x0 x1 x2 x3 x4 x5 x6 : Value} (h : Blk7 W b x0 x1 x2 x3 x4 x5 x6) (o : Nat) : W.frozen? ⟨b, o, none⟩ = false := by
  unfold Blk7 at h
  simp [World.frozen?, h]
theorem Blk7.below {W W' : World} {b : Nat} {x0 x1 x2 x3 x4 x5 x6 : Value} (h : Blk7 W b x0 x1 x2 x3 x4 x5 x6) (hb : Below W.heap.size W W') : Blk7 W' b x0 x1 x2 x3 x4 x5 x6 := by unfold Blk7; rw [hb.block b (Array.getElem?_eq_some_iff.1 h).1]; exact h
theorem Blk7.away {W : World} {b b' o : Nat} {x0 x1 x2 x3 x4 x5 x6 : Value} (h : Blk7 W b x0 x1 x2 x3 x4 x5 x6) (hb : b ≠ b') (y : Value) : Blk7 (W.setCell ⟨b', o, none⟩ y) b x0 x1 x2 x3 x4 x5 x6 := by
  unfold Blk7 at h ⊢
  rw [heap_setCell_other _ _ _ _ hb]
  exact h
theorem Blk7.put {W : World} {b : Nat} {x0 x1 x2 x3 x4 x5 x6 : Value} (h : Blk7 W b x0 x1 x2 x3 x4 x5 x6) (y0 y1 y2 y3 y4 y5 y6 : Value) : (W.cell? ⟨b, 0, none⟩ = some x0 ∧ W.frozen? ⟨b, 0, none⟩ = false) ∧ ((W.setCell ⟨b, 0, none⟩ y0).cell? ⟨b, 1, none⟩ = some x1 ∧ (W.setCell ⟨b, 0, none⟩ y0).frozen? ⟨b, 1, none⟩ = false) ∧ (((W.setCell ⟨b, 0, none⟩ y0).setCell ⟨b, 1, none⟩ y1).cell? ⟨b, 2, none⟩ = some x2 ∧ ((W.setCell ⟨b, 0, none⟩ y0).setCell ⟨b, 1, none⟩ y1).frozen? ⟨b, 2, none⟩ = false) ∧ ((((W.setCell ⟨b, 0, none⟩ y0).setCell ⟨b, 1, none⟩ y1).setCell ⟨b, 2, none⟩ y2).cell? ⟨b, 3, none⟩ = some x3 ∧ (((W.setCell ⟨b, 0, none⟩ y0).setCell ⟨b, 1, none⟩ y1).setCell ⟨b, 2, none⟩ y2).frozen? ⟨b, 3, none⟩ = false) ∧ (((((W.setCell ⟨b, 0, none⟩ y0).setCell ⟨b, 1, none⟩ y1).setCell ⟨b, 2, none⟩ y2).setCell ⟨b, 3, none⟩ y3).cell? ⟨b, 4, none⟩ = some x4 ∧ ((((W.setCell ⟨b, 0, none⟩ y0).setCell ⟨b, 1, none⟩ y1).setCell ⟨b, 2, none⟩ y2).setCell ⟨b, 3, none⟩ y3).frozen? ⟨b, 4, none⟩ = false) ∧ ((((((W.setCell ⟨b, 0, none⟩ y0).setCell ⟨b, 1, none⟩ y1).setCell ⟨b, 2, none⟩ y2).setCell ⟨b, 3, none⟩ y3).setCell ⟨b, 4, none⟩ y4).cell? ⟨b, 5, none⟩ = some x5 ∧ (((((W.setCell ⟨b, 0, none⟩ y0).setCell ⟨b, 1, none⟩ y1).setCell ⟨b, 2, none⟩ y2).setCell ⟨b, 3, none⟩ y3).setCell ⟨b, 4, none⟩ y4).frozen? ⟨b, 5, none⟩ = false) ∧ (((((((W.setCell ⟨b, 0, none⟩ y0).setCell ⟨b, 1, none⟩ y1).setCell ⟨b, 2, none⟩ y2).setCell ⟨b, 3, none⟩ y3).setCell ⟨b, 4, none⟩ y4).setCell ⟨b, 5, none⟩ y5).cell? ⟨b, 6, none⟩ = some x6 ∧ ((((((W.setCell ⟨b, 0, none⟩ y0).setCell ⟨b, 1, none⟩ y1).setCell ⟨b, 2, none⟩ y2).setCell ⟨b, 3, none⟩ y3).setCell ⟨b, 4, none⟩ y4).setCell ⟨b, 5, none⟩ y5).frozen? ⟨b, 6, none⟩ = false) ∧ Blk7 (((((((W.setCell ⟨b, 0, none⟩ y0).setCell ⟨b, 1, none⟩ y1).setCell ⟨b, 2, none⟩ y2).setCell ⟨b, 3, none⟩ y3).setCell ⟨b, 4, none⟩ y4).setCell ⟨b, 5, none⟩ y5).setCell ⟨b, 6, none⟩ y6) b y0 y1 y2 y3 y4 y5 y6 := by
  have h1 := h.set0 y0
  have h2 := h1.set1 y1
  have h3 := h2.set2 y2
  have h4 := h3.set3 y3
  have h5 := h4.set4 y4
  have h6 := h5.set5 y5
  have h7 := h6.set6 y6
  exact ⟨⟨h.cell.1, h.free 0⟩, ⟨h1.cell.2.1, h1.free 1⟩, ⟨h2.cell.2.2.1, h2.free 2⟩, ⟨h3.cell.2.2.2.1, h3.free 3⟩, ⟨h4.cell.2.2.2.2.1, h4.free 4⟩, ⟨h5.cell.2.2.2.2.2.1, h5.free 5⟩, ⟨h6.cell.2.2.2.2.2.2, h6.free 6⟩, h7⟩
/-- A job's value, with another program. -/
abbrev Jb.with (j : Jb) (s : ByteArray) : Jb := ⟨j.id, s, j.agg, j.bound, j.fuel, j.parts⟩
theorem results_cell1M {P : Program} {fn : Func} {t : Tmp} {T : TypeId} {a : Addr} {x : Value} (h : fn.results = #[.cell t T]) {tmps : Array Value} {w : World} (hp : tmps.getD t undef = .pointer (some a)) (hl : (loadVar T a).run P w = .ok x w) :
    (results fn tmps).run P w = .ok x w := by
  have hp' : tmps[t]?.getD undef = .pointer (some a) := by simpa using hp
  simp [results, h, hp', hl, asAddr]
theorem Blk7.job {W : World} {b : Nat} {j : Jb} {v : Value} (h : Blk7 W b (.int .i64 j.id) (.string j.prog) (.int .i64 j.agg) (.int .i64 j.bound) (.int .i64 j.fuel) v (.int .i64 j.parts)) : BlkJ W b j v := h
theorem below7 {w W : World} {b : Nat} (y0 y1 y2 y3 y4 y5 y6 : Value) (h : Below w.heap.size w W) (hb : w.heap.size ≤ b) : Below w.heap.size w (((((((W.setCell ⟨b, 0, none⟩ y0).setCell ⟨b, 1, none⟩ y1).setCell ⟨b, 2, none⟩ y2).setCell ⟨b, 3, none⟩ y3).setCell ⟨b, 4, none⟩ y4).setCell ⟨b, 5, none⟩ y5).setCell ⟨b, 6, none⟩ y6) := ((((((h.setCell (p := ⟨b, 0, none⟩) hb y0).setCell (p := ⟨b, 1, none⟩) hb y1).setCell (p := ⟨b, 2, none⟩) hb y2).setCell (p := ⟨b, 3, none⟩) hb y3).setCell (p := ⟨b, 4, none⟩) hb y4).setCell (p := ⟨b, 5, none⟩) hb y5).setCell (p := ⟨b, 6, none⟩) hb y6
set_option maxHeartbeats 800000 in
theorem job13_any (j : Jb) (a5 : Option Addr) (n5 c5 : Nat) (s : ByteArray) (w : World) :
    Calls Tryz.prog 69 #[jobV j (.slice a5 n5 c5), .string s] w fun e w' => e = .returned (jobV (j.with s) (.slice a5 n5 c5)) ∧ Below w.heap.size w w' := by
  have hst : ∀ (W : World) (o : Obj), Below W.heap.size W (W.alloc o) := fun W o => (Below.refl _ _).alloc (Nat.le_refl _) _
  obtain ⟨W0, hW0⟩ : ∃ W0 : World, W0 = (w.alloc (.cells #[.int .i64 j.id, .string j.prog, .int .i64 j.agg, .int .i64 j.bound, .int .i64 j.fuel, .slice a5 n5 c5, .int .i64 j.parts] 51)).alloc (.cells #[.int .i64 0, .string ⟨#[]⟩, .int .i64 0, .int .i64 0, .int .i64 0, .slice none 0 0, .int .i64 0] 51) := ⟨_, rfl⟩
  have hb0 : Below w.heap.size w W0 := by rw [hW0]; exact nxt (hst _ _) (hst _ _)
  have B0 : Blk7 W0 w.heap.size (.int .i64 j.id) (.string j.prog) (.int .i64 j.agg) (.int .i64 j.bound) (.int .i64 j.fuel) (.slice a5 n5 c5) (.int .i64 j.parts) := by rw [hW0]; exact Blk7.below (heap_alloc_new w _) (hst _ _)
  have B1 : Blk7 W0 (w.heap.size + 1) (.int .i64 0) (.string ⟨#[]⟩) (.int .i64 0) (.int .i64 0) (.int .i64 0) (.slice none 0 0) (.int .i64 0) := by
    rw [hW0]
    have := heap_alloc_new (w.alloc (.cells #[.int .i64 j.id, .string j.prog, .int .i64 j.agg, .int .i64 j.bound, .int .i64 j.fuel, .slice a5 n5 c5, .int .i64 j.parts] 51)) (.cells #[.int .i64 0, .string ⟨#[]⟩, .int .i64 0, .int .i64 0, .int .i64 0, .slice none 0 0, .int .i64 0] 51)
    unfold Blk7
    simpa using this
  obtain ⟨r0, r1, r2, r3, r4, r5, r6⟩ := B0.cell
  have f1 := B0.free 1
  have B2 := B0.set1 (.string s)
  obtain ⟨s0, s1, s2, s3, s4, s5, s6⟩ := B2.cell
  have B3 := B1.away (o := 1) (b' := w.heap.size) (by omega) (.string s)
  obtain ⟨⟨p0, q0⟩, ⟨p1, q1⟩, ⟨p2, q2⟩, ⟨p3, q3⟩, ⟨p4, q4⟩, ⟨p5, q5⟩, ⟨p6, q6⟩, hfin⟩ := B3.put (.int .i64 j.id) (.string s) (.int .i64 j.agg) (.int .i64 j.bound) (.int .i64 j.fuel) (.slice a5 n5 c5) (.int .i64 j.parts)
  have HF := hidM (Blk7.job (j := j.with s) hfin)
  have HBB := hidM (below7 (.int .i64 j.id) (.string s) (.int .i64 j.agg) (.int .i64 j.bound) (.int .i64 j.fuel) (.slice a5 n5 c5) (.int .i64 j.parts) (hb0.setCell (p := ⟨w.heap.size, 1, none⟩) (Nat.le_refl _) (.string s)) (Nat.le_succ _ : w.heap.size ≤ w.heap.size + 1))
  have HW := hidM hW0.symm
  clear hW0 hb0 B0 B1 B2 B3 hfin hst
  go_enter Tryz.func69, Tryz.ntmps69
  go_upto_region 1 with fail
  rw [HW.out]
  go_wp2
  exact bodyPost_ret (results_cell1M rfl rfl (jobLoad HF.out)) rfl ⟨rfl, HBB.out⟩
end Go.Proofs.YtaagllbcmgnbnaaGreatDoor
/- What comes in: a job's way, records, programs; Heavy. -/
namespace Go.Proofs.YtaagllbcmgnbnaaGreatDoor
open Go.RowKit
set_option linter.unusedVariables false
set_option maxRecDepth 100000

structure In13 (W : World) (j : Jb) (n5 : Nat) (vs vl vr vf vn : Value) (l : List ByteArray) (f : Fo) (lr : List Rc) (lf : List Int) (x : ByteArray) : Prop where
  fuel : -9223372036854775808 ≤ j.fuel ∧ j.fuel ≤ 9223372036854775807
  prog : j.prog.size ≤ 140737488351232
  spl : n5 ≤ 17592186043904
  e : In8 W vs vl vr vf l f lr lf
  n : ∃ a n c, vn = .slice a n c
  x : x.size ≤ 140737488351232
theorem In13.below {W W' : World} {j : Jb} {n5 : Nat} {vs vl vr vf vn : Value} {l : List ByteArray} {f : Fo} {lr : List Rc} {lf : List Int} {x : ByteArray} (h : In13 W j n5 vs vl vr vf vn l f lr lf x) (hb : Below W.heap.size W W') : In13 W' j n5 vs vl vr vf vn l f lr lf x := ⟨h.fuel, h.prog, h.spl, h.e.below hb, h.n, h.x⟩
abbrev ask13V (j : Jb) (v5 vs vl vr vf vn : Value) (x : ByteArray) : Value := .agg #[.int .i64 j.id, .string j.prog, .int .i64 j.agg, .int .i64 j.bound, .int .i64 j.fuel, v5, .int .i64 j.parts, vs, vl, vr, vf, vn, .string x]
abbrev ask13O (j : Jb) (v5 vs vl vr vf vn : Value) (x : ByteArray) : Obj := .cells #[.int .i64 j.id, .string j.prog, .int .i64 j.agg, .int .i64 j.bound, .int .i64 j.fuel, v5, .int .i64 j.parts, vs, vl, vr, vf, vn, .string x] 59
/-- The block of what is asked. -/
def BlkQ (W : World) (b : Nat) (j : Jb) (v5 vs vl vr vf vn : Value) (x : ByteArray) : Prop := W.heap[b]? = some (.cells #[.int .i64 j.id, .string j.prog, .int .i64 j.agg, .int .i64 j.bound, .int .i64 j.fuel, v5, .int .i64 j.parts, vs, vl, vr, vf, vn, .string x] 59 (0, 0))
theorem BlkQ.new (W : World) (j : Jb) (v5 vs vl vr vf vn : Value) (x : ByteArray) : BlkQ (W.alloc (ask13O j v5 vs vl vr vf vn x)) W.heap.size j v5 vs vl vr vf vn x := heap_alloc_new W _
theorem BlkQ.lt {W : World} {b : Nat} {j : Jb} {v5 vs vl vr vf vn : Value} {x : ByteArray} (h : BlkQ W b j v5 vs vl vr vf vn x) : b < W.heap.size := (Array.getElem?_eq_some_iff.1 h).1
theorem BlkQ.below {W W' : World} {b : Nat} {j : Jb} {v5 vs vl vr vf vn : Value} {x : ByteArray} (h : BlkQ W b j v5 vs vl vr vf vn x) (hb : Below W.heap.size W W') : BlkQ W' b j v5 vs vl vr vf vn x := by unfold BlkQ; rw [hb.block b h.lt]; exact h
theorem BlkQ.cells {W : World} {b : Nat} {j : Jb} {v5 vs vl vr vf vn : Value} {x : ByteArray} (h : BlkQ W b j v5 vs vl vr vf vn x) : W.cell? ⟨b, 0, none⟩ = some (.int .i64 j.id) ∧ W.cell? ⟨b, 1, none⟩ = some (.string j.prog) ∧ W.cell? ⟨b, 2, none⟩ = some (.int .i64 j.agg) ∧ W.cell? ⟨b, 3, none⟩ = some (.int .i64 j.bound) ∧ W.cell? ⟨b, 4, none⟩ = some (.int .i64 j.fuel) ∧ W.cell? ⟨b, 5, none⟩ = some v5 ∧ W.cell? ⟨b, 6, none⟩ = some (.int .i64 j.parts) ∧ W.cell? ⟨b, 7, none⟩ = some vs ∧ W.cell? ⟨b, 8, none⟩ = some vl ∧ W.cell? ⟨b, 9, none⟩ = some vr ∧ W.cell? ⟨b, 10, none⟩ = some vf ∧ W.cell? ⟨b, 11, none⟩ = some vn ∧ W.cell? ⟨b, 12, none⟩ = some (.string x) := by
  unfold BlkQ at h
  refine ⟨?_, ?_, ?_, ?_, ?_, ?_, ?_, ?_, ?_, ?_, ?_, ?_, ?_⟩ <;> simp [World.cell?, h]
set_option maxHeartbeats 800000 in
theorem heavy13_any (j : Jb) (a5 : Option Addr) (n5 c5 : Nat) (vs vl vr vf vn : Value) (l : List ByteArray) (f : Fo) (lr : List Rc) (lf : List Int) (x : ByteArray) (w : World) (h : In13 w j n5 vs vl vr vf vn l f lr lf x) :
    Calls Tryz.prog 68 #[ask13V j (.slice a5 n5 c5) vs vl vr vf vn x] w fun e w' => (∃ r, e = .returned (.bool r) ∧ (r = false → lr.length ≤ 6000 ∧ x.size ≤ 5000)) ∧ Below w.heap.size w w' := by
  have hb0 := (Below.refl w.heap.size w).alloc (Nat.le_refl _) (ask13O j (.slice a5 n5 c5) vs vl vr vf vn x)
  have hA := BlkQ.new w j (.slice a5 n5 c5) vs vl vr vf vn x
  obtain ⟨W0, hW0⟩ : ∃ W0 : World, W0 = w.alloc (ask13O j (.slice a5 n5 c5) vs vl vr vf vn x) := ⟨_, rfl⟩
  rw [← hW0] at hb0 hA
  have h0 := h.below hb0
  obtain ⟨sa, cs, hvs, -⟩ := h.e.s.1
  obtain ⟨al, cl, hvl⟩ := h.e.f.1.val
  obtain ⟨ar, cr, hvr, -⟩ := h.e.r.1
  obtain ⟨af, cf, hvf, -⟩ := h.e.n.1
  obtain ⟨an, nn, cn, hvn⟩ := h.n
  subst hvs hvl hvr hvf hvn
  have H1 := hidM (heavy8x_any _ _ _ _ l f lr lf W0 h0.e)
  have H2 := hidM (fun W => jweight_any j a5 n5 c5 W h.prog h.spl)
  have HA := hidM (show ∀ W, Below W0.heap.size W0 W → BlkQ W w.heap.size j (.slice a5 n5 c5) (.slice sa l.length cs) (.slice al f.len cl) (.slice ar lr.length cr) (.slice af lf.length cf) (.slice an nn cn) x from fun W hW => hA.below hW)
  have HB := hidM hb0
  have HW := hidM hW0.symm
  obtain ⟨p0, p1, p2, p3, p4, p5, p6, p7, p8, p9, p10, p11, p12⟩ := hA.cells
  clear hA hW0 hb0 h h0
  go_enter Tryz.func68, Tryz.ntmps68
  go_wp2_with fail
  rw [HW.out]
  refine H1.out.mono ?_
  rintro e W1 ⟨⟨r, rfl, hr⟩, hb1⟩
  obtain ⟨q0, q1, q2, q3, q4, q5, q6, q7, q8, q9, q10, q11, q12⟩ := (HA.out W1 hb1).cells
  clear p0 p1 p2 p3 p4 p5 p6 p7 p8 p9 p10 p11 p12
  cases r with
  | true =>
    go_wp2
    go_ret
    exact ⟨⟨_, rfl, fun h => by cases h⟩, nxt HB.out hb1⟩
  | false =>
    have hr6 := hr rfl
    clear hr
    generalize hz : ((1 + j.prog.size + n5 : Nat) : Int) = z at H2
    by_cases g1 : z ≤ 3000
    · have d1 : decide ((3000 : Int) < z) = false := decide_eq_false (by omega)
      by_cases g2 : nn ≤ 100
      · have d2 : decide ((100 : Int) < (nn : Int)) = false := decide_eq_false (by omega)
        have d2n : ¬ 100 < nn := by omega
        by_cases g3 : x.size ≤ 5000
        · have d3 : decide ((5000 : Int) < (x.size : Int)) = false := decide_eq_false (by omega)
          have d3n : ¬ 5000 < x.size := by omega
          have HG := hidM (And.intro hr6 g3)
          clear hz g1 g2 g3 hr6
          go_wp2_with (first | (go_at_call 100; refine (H2.out _).mono ?_; rintro e W2 ⟨rfl, hb2⟩; obtain ⟨s0, s1, s2, s3, s4, s5, s6, s7, s8, s9, s10, s11, s12⟩ := (HA.out W2 (nxt hb1 hb2)).cells))
          go_ret
          exact ⟨⟨_, rfl, fun _ => HG.out⟩, nxt HB.out (nxt hb1 hb2)⟩
        · have d3 : decide ((5000 : Int) < (x.size : Int)) = true := decide_eq_true (by omega)
          have d3n : 5000 < x.size := by omega
          clear hz g1 g2 g3 hr6
          go_wp2_with (first | (go_at_call 100; refine (H2.out _).mono ?_; rintro e W2 ⟨rfl, hb2⟩; obtain ⟨s0, s1, s2, s3, s4, s5, s6, s7, s8, s9, s10, s11, s12⟩ := (HA.out W2 (nxt hb1 hb2)).cells))
          go_ret
          exact ⟨⟨_, rfl, fun h => by simp at h⟩, nxt HB.out (nxt hb1 hb2)⟩
      · have d2 : decide ((100 : Int) < (nn : Int)) = true := decide_eq_true (by omega)
        have d2n : 100 < nn := by omega
        clear hz g1 g2 hr6
        go_wp2_with (first | (go_at_call 100; refine (H2.out _).mono ?_; rintro e W2 ⟨rfl, hb2⟩; obtain ⟨s0, s1, s2, s3, s4, s5, s6, s7, s8, s9, s10, s11, s12⟩ := (HA.out W2 (nxt hb1 hb2)).cells))
        go_ret
        exact ⟨⟨_, rfl, fun h => by simp at h⟩, nxt HB.out (nxt hb1 hb2)⟩
    · have d1 : decide ((3000 : Int) < z) = true := decide_eq_true (by omega)
      clear hz g1 hr6
      go_wp2_with (first | (go_at_call 100; refine (H2.out _).mono ?_; rintro e W2 ⟨rfl, hb2⟩))
      go_ret
      exact ⟨⟨_, rfl, fun h => by simp at h⟩, nxt HB.out (nxt hb1 hb2)⟩
theorem rTs_small (agg : Int) (bd : Nat) : ∀ (f : Nat) (acc : List Rw) (s : ByteArray), acc.length ≤ 1536 → (∀ r ∈ acc, r.2.2.length ≤ bd) → (rTs agg bd f acc s).1.length ≤ 1536 ∧ ∀ r ∈ (rTs agg bd f acc s).1, r.2.2.length ≤ bd
  | 0, acc, s, h1, h2 => ⟨h1, h2⟩
  | f + 1, acc, s, h1, h2 => by
    rw [rTs]
    split
    · exact ⟨h1, h2⟩
    · split
      · simp
      · next he =>
        split
        · simp
        · next hm =>
          have hm : mayFol acc (rowTk agg bd s).1.1 = true := by simpa using hm
          have he : (rowTk agg bd s).2.2 = 0 := by simpa using he
          obtain ⟨-, -, q, m, -, -, -, -, -, e4, -⟩ := rowTk_good he
          refine rTs_small agg bd f _ _ (by have := mayFol_len hm; simp; omega) fun r hr => ?_
          rcases List.mem_append.1 hr with hr | hr
          · exact h2 r hr
          · simp at hr
            subst hr
            rw [e4]
            exact cTake_len agg bd _
theorem openP_small {agg bound : Int} (s : ByteArray) (hw : wayC agg bound = true) : (openP agg bound s).1.length ≤ 100000 ∧ ∀ r ∈ (openP agg bound s).1, r.2.2.length ≤ 100000 := by
  have hb := wayC_bd hw
  unfold openP
  split
  · simp
  · split
    · simp
    · obtain ⟨h1, h2⟩ := rTs_small agg bound.toNat (fTake s).1.size [] (fTake s).1 (by simp) (by simp)
      unfold rowsTk
      exact ⟨by omega, fun r hr => by have := h2 r hr; omega⟩
theorem gath_size (j : Jb) (l : List Rc) : (gathRes j l).1.size ≤ 32704 := by
  unfold gathRes gathP
  split
  · exact Nat.zero_le _
  · split
    · exact Nat.zero_le _
    · split
      · exact Nat.zero_le _
      · next h => simp only; omega
end Go.Proofs.YtaagllbcmgnbnaaGreatDoor
/- thresherlaw13.LocalMaps, of a way that may be: its walk. -/
namespace Go.Proofs.YtaagllbcmgnbnaaGreatDoor
open Go.RowKit
set_option linter.unusedVariables false
set_option maxRecDepth 100000

set_option maxHeartbeats 3000000 in
theorem lawlm (j : Jb) (a5 : Option Addr) (n5 c5 : Nat) (vs vl vr vf vn : Value) (l : List ByteArray) (f : Fo) (lr : List Rc) (lf : List Int) (x : ByteArray) (w : World) (h : In13 w j n5 vs vl vr vf vn l f lr lf x) (hway : wayC j.agg j.bound = true) (hE : Env w) (hH : Halves w) :
    Calls Tryz.prog 44 #[ask13V j (.slice a5 n5 c5) vs vl vr vf vn x] w (BoolR w true) := by
  have hb0 := (Below.refl w.heap.size w).alloc (Nat.le_refl _) (ask13O j (.slice a5 n5 c5) vs vl vr vf vn x)
  have hA := BlkQ.new w j (.slice a5 n5 c5) vs vl vr vf vn x
  obtain ⟨W0, hW0⟩ : ∃ W0 : World, W0 = w.alloc (ask13O j (.slice a5 n5 c5) vs vl vr vf vn x) := ⟨_, rfl⟩
  rw [← hW0] at hb0 hA
  have h0 := h.below hb0
  obtain ⟨sa, sc, hvs, hss⟩ := h0.e.s.1
  obtain ⟨al, cl, hvl⟩ := h.e.f.1.val
  obtain ⟨ar, cr, hvr, -⟩ := h.e.r.1
  obtain ⟨af, cf, hvf, -⟩ := h.e.n.1
  obtain ⟨an, nn, cn, hvn⟩ := h.n
  subst hvs hvl hvr hvf hvn
  have H1 := hidM (heavy13_any j a5 n5 c5 _ _ _ _ _ l f lr lf x W0 h0)
  have HENV := hidM (show ∀ W, Below W0.heap.size W0 W → Env W from fun W hW => (hE.low hb0).low hW)
  have HHAL := hidM (show ∀ W, Below W0.heap.size W0 W → Halves W from fun W hW => (hH.below hb0 hH.pos).below hW (hH.below hb0 hH.pos).pos)
  have HRC := hidM (show ∀ W, Below W0.heap.size W0 W → RS W (.slice ar lr.length cr) lr from fun W hW => h0.e.r.1.below hW)
  have HWL := hidM (show Wf lr from h.e.r.2.2)
  have HWS := hidM h.e.s.2.2
  have HFU := hidM h.fuel
  have HXS := hidM h.x
  have HA := hidM (show ∀ W, Below W0.heap.size W0 W → BlkQ W w.heap.size j (.slice a5 n5 c5) (.slice sa l.length sc) (.slice al f.len cl) (.slice ar lr.length cr) (.slice af lf.length cf) (.slice an nn cn) x from fun W hW => hA.below hW)
  have HWAY := hidM hway
  have HW := hidM hW0.symm
  have HB := hidM hb0
  have HN := hidM num13_any
  have HK := hidM wakes13_any
  obtain ⟨p0, p1, p2, p3, p4, p5, p6, p7, p8, p9, p10, p11, p12⟩ := hA.cells
  clear h h0 hb0 hA hW0 hE hH hway
  go_enter Tryz.func44, Tryz.ntmps44
  go_wp2_with fail
  rw [HW.out]
  refine H1.out.mono ?_
  rintro e W1 ⟨⟨hv, rfl, hsm⟩, hb1⟩
  cases hv with
  | true =>
    go_wp2
    go_ret
    exact ⟨rfl, nxt HB.out hb1⟩
  | false =>
    obtain ⟨hlr, hx5⟩ := hsm rfl
    have HLR := hidM hlr
    have HX5 := hidM hx5
    have HB1 := hidM hb1
    clear hsm hlr hx5 p0 p1 p2 p3 p4 p5 p6 p7 p8 p9 p10 p11 p12 H1 hb1
    go_wp2
    go_loopw [3] (fun i wr => ∃ n : Nat, i = .int .i64 n ∧ n ≤ l.length ∧ n ≤ 6 ∧ Below W0.heap.size W0 wr) (fun i _ => 7 - (intOf i).toNat)
    case atStart => exact ⟨0, rfl, by omega, by omega, HB1.out⟩
    case round =>
      clear HB1
      rename World => w1
      obtain ⟨n, rfl, hn1, hn6, hbr⟩ := hrel
      have HBR := hidM hbr
      obtain ⟨p0, p1, p2, p3, p4, p5, p6, p7, p8, p9, p10, p11, p12⟩ := (HA.out w1 hbr).cells
      clear hbr
      by_cases hnl : n < l.length
      · by_cases hn5 : n < 6
        · have hnl' : (n : Int) < (l.length : Int) := by omega
          have hn5' : (n : Int) < 6 := by omega
          have hn0 : (0 : Int) ≤ (n : Int) := by omega
          obtain ⟨y, hy⟩ := getSome (l := l) (i := n) hnl
          rcases hss with hnil | ⟨bs, os, rfl, hbs, hats⟩
          · rw [hnil] at hnl; simp at hnl
          have hys := HWS.out y (List.mem_of_getElem? hy)
          have hcy := hidM (show ∀ W, Below W0.heap.size W0 W → W.cell? ⟨bs, os + n, none⟩ = some (.string y) from fun W hW => (hW.cell (p := ⟨bs, _, none⟩) hbs).trans (hats n y hy))
          have HJB := hidM (fun W => job13_any j a5 n5 c5 y W)
          have HSS := hidM (show ∀ W, Below W0.heap.size W0 W → (W.cell? ⟨w.heap.size, 0, none⟩ = some (.int .i64 j.id) ∧ W.cell? ⟨w.heap.size, 1, none⟩ = some (.string j.prog) ∧ W.cell? ⟨w.heap.size, 2, none⟩ = some (.int .i64 j.agg) ∧ W.cell? ⟨w.heap.size, 3, none⟩ = some (.int .i64 j.bound) ∧ W.cell? ⟨w.heap.size, 4, none⟩ = some (.int .i64 j.fuel) ∧ W.cell? ⟨w.heap.size, 5, none⟩ = some (.slice a5 n5 c5) ∧ W.cell? ⟨w.heap.size, 6, none⟩ = some (.int .i64 j.parts) ∧ W.cell? ⟨w.heap.size, 7, none⟩ = some (.slice (some ⟨bs, os, none⟩) l.length sc) ∧ W.cell? ⟨bs, os + n, none⟩ = some (.string y)) ∧ Below W0.heap.size W0 W from fun W hW => by
            obtain ⟨q0, q1, q2, q3, q4, q5, q6, q7, -⟩ := (HA.out W hW).cells
            exact ⟨⟨q0, q1, q2, q3, q4, q5, q6, q7, hcy.out W hW⟩, hW⟩)
          have HKEEP := hidM (fun (W W' : World) (hn : Below W0.heap.size W0 W) (hb : Below W.heap.size W W') => HSS.out W' (nxt hn hb))
          have HPUT := hidM (fun (W2 : World) (hb : Below (w1.drew.alloc (.cells #[.int .i64 0, .string ⟨#[]⟩, .int .i64 0, .int .i64 0, .int .i64 0, .slice none 0 0, .int .i64 0] 51)).heap.size (w1.drew.alloc (.cells #[.int .i64 0, .string ⟨#[]⟩, .int .i64 0, .int .i64 0, .int .i64 0, .slice none 0 0, .int .i64 0] 51)) W2) => (Blk7.below (show Blk7 (w1.drew.alloc (.cells #[.int .i64 0, .string ⟨#[]⟩, .int .i64 0, .int .i64 0, .int .i64 0, .slice none 0 0, .int .i64 0] 51)) w1.heap.size (.int .i64 0) (.string ⟨#[]⟩) (.int .i64 0) (.int .i64 0) (.int .i64 0) (.slice none 0 0) (.int .i64 0) from heap_alloc_new w1.drew _) hb).put (.int .i64 j.id) (.string y) (.int .i64 j.agg) (.int .i64 j.bound) (.int .i64 j.fuel) (.slice a5 n5 c5) (.int .i64 j.parts))
          have HNEW := hidM (fun (W2 : World) => (show Blk7 (W2.alloc (.cells #[.int .i64 j.id, .string y, .int .i64 j.agg, .int .i64 j.bound, .int .i64 j.fuel, .slice a5 n5 c5, .int .i64 j.parts] 51)) W2.heap.size (.int .i64 j.id) (.string y) (.int .i64 j.agg) (.int .i64 j.bound) (.int .i64 j.fuel) (.slice a5 n5 c5) (.int .i64 j.parts) from heap_alloc_new W2 _))
          have HD1 := hidM (show Below W0.heap.size W0 (w1.drew.alloc (.cells #[.int .i64 0, .string ⟨#[]⟩, .int .i64 0, .int .i64 0, .int .i64 0, .slice none 0 0, .int .i64 0] 51)) from nxt HBR.out.drew ((Below.refl _ _).alloc (Nat.le_refl _) _))
          have HD2 := hidM (fun (W2 : World) (hb : Below w1.drew.heap.size w1.drew W2) => (show Below W0.heap.size W0 (W2.alloc (.cells #[.int .i64 j.id, .string y, .int .i64 j.agg, .int .i64 j.bound, .int .i64 j.fuel, .slice a5 n5 c5, .int .i64 j.parts] 51)) from nxt (nxt HBR.out.drew hb) ((Below.refl _ _).alloc (Nat.le_refl _) _)))
          have HD3 := hidM (fun (W2 : World) (hb : Below (w1.drew.alloc (.cells #[.int .i64 0, .string ⟨#[]⟩, .int .i64 0, .int .i64 0, .int .i64 0, .slice none 0 0, .int .i64 0] 51)).heap.size (w1.drew.alloc (.cells #[.int .i64 0, .string ⟨#[]⟩, .int .i64 0, .int .i64 0, .int .i64 0, .slice none 0 0, .int .i64 0] 51)) W2) => (show Below W0.heap.size W0 (((((((W2.setCell ⟨w1.heap.size, 0, none⟩ (.int .i64 j.id)).setCell ⟨w1.heap.size, 1, none⟩ (.string y)).setCell ⟨w1.heap.size, 2, none⟩ (.int .i64 j.agg)).setCell ⟨w1.heap.size, 3, none⟩ (.int .i64 j.bound)).setCell ⟨w1.heap.size, 4, none⟩ (.int .i64 j.fuel)).setCell ⟨w1.heap.size, 5, none⟩ (.slice a5 n5 c5)).setCell ⟨w1.heap.size, 6, none⟩ (.int .i64 j.parts)) from below7 _ _ _ _ _ _ _ (nxt HD1.out hb) HBR.out.size))
          have HD4 := hidM (fun (W2 : World) (hb : Below w1.drew.heap.size w1.drew W2) => (show Below W0.heap.size W0 (W2.alloc (.cells #[.int .i64 0, .string ⟨#[]⟩, .int .i64 0, .int .i64 0, .int .i64 0, .slice none 0 0, .int .i64 0] 51)) from nxt (nxt HBR.out.drew hb) ((Below.refl _ _).alloc (Nat.le_refl _) _)))
          have HD5 := hidM (show Below W0.heap.size W0 (w1.alloc (.cells #[.int .i64 0, .string ⟨#[]⟩, .int .i64 0, .int .i64 0, .int .i64 0, .slice none 0 0, .int .i64 0] 51)).drew from (nxt HBR.out ((Below.refl _ _).alloc (Nat.le_refl _) _)).drew)
          clear hats hy
          go_wp2
          go_region_held3 (fun W => (W.cell? ⟨w.heap.size, 0, none⟩ = some (.int .i64 j.id) ∧ W.cell? ⟨w.heap.size, 1, none⟩ = some (.string j.prog) ∧ W.cell? ⟨w.heap.size, 2, none⟩ = some (.int .i64 j.agg) ∧ W.cell? ⟨w.heap.size, 3, none⟩ = some (.int .i64 j.bound) ∧ W.cell? ⟨w.heap.size, 4, none⟩ = some (.int .i64 j.fuel) ∧ W.cell? ⟨w.heap.size, 5, none⟩ = some (.slice a5 n5 c5) ∧ W.cell? ⟨w.heap.size, 6, none⟩ = some (.int .i64 j.parts) ∧ W.cell? ⟨w.heap.size, 7, none⟩ = some (.slice (some ⟨bs, os, none⟩) l.length sc) ∧ W.cell? ⟨bs, os + n, none⟩ = some (.string y)) ∧ Below W0.heap.size W0 W)
            (first
              | with_reducible exact HSS.out _ HBR.out.drew
              | with_reducible exact HSS.out _ HD1.out
              | with_reducible exact HSS.out _ (nxt HBR.out.drew hb2)
              | with_reducible exact HSS.out _ (nxt HD1.out hb2)
              | with_reducible exact HSS.out _ (HD2.out W2 hb2)
              | with_reducible exact HSS.out _ (HD3.out W2 hb2)
              | with_reducible exact HSS.out _ (HD4.out W2 hb2)
              | with_reducible exact HSS.out _ HD5.out)
            (first
              | (go_at_call 69; refine (HJB.out ((w1.drew).alloc (.cells #[.int .i64 0, .string ⟨#[]⟩, .int .i64 0, .int .i64 0, .int .i64 0, .slice none 0 0, .int .i64 0] 51))).mono ?_; rintro e W2 ⟨rfl, hb2⟩; obtain ⟨⟨g0, k0⟩, ⟨g1, k1⟩, ⟨g2, k2⟩, ⟨g3, k3⟩, ⟨g4, k4⟩, ⟨g5, k5⟩, ⟨g6, k6⟩, hfin⟩ := HPUT.out W2 hb2)
              | (go_at_call 69; refine (HJB.out (w1.drew)).mono ?_; rintro e W2 ⟨rfl, hb2⟩; have hfin := HNEW.out W2))
          all_goals first
            | (clear g0 k0 g1 k1 g2 k2 g3 k3 g4 k4 g5 k5 g6 k6
               have hbj : Blk7 (((((((W2.setCell ⟨w1.heap.size, 0, none⟩ (.int .i64 j.id)).setCell ⟨w1.heap.size, 1, none⟩ (.string y)).setCell ⟨w1.heap.size, 2, none⟩ (.int .i64 j.agg)).setCell ⟨w1.heap.size, 3, none⟩ (.int .i64 j.bound)).setCell ⟨w1.heap.size, 4, none⟩ (.int .i64 j.fuel)).setCell ⟨w1.heap.size, 5, none⟩ (.slice a5 n5 c5)).setCell ⟨w1.heap.size, 6, none⟩ (.int .i64 j.parts)) w1.heap.size (.int .i64 j.id) (.string y) (.int .i64 j.agg) (.int .i64 j.bound) (.int .i64 j.fuel) (.slice a5 n5 c5) (.int .i64 j.parts) := hfin
               have hb4 : Below W0.heap.size W0 (((((((W2.setCell ⟨w1.heap.size, 0, none⟩ (.int .i64 j.id)).setCell ⟨w1.heap.size, 1, none⟩ (.string y)).setCell ⟨w1.heap.size, 2, none⟩ (.int .i64 j.agg)).setCell ⟨w1.heap.size, 3, none⟩ (.int .i64 j.bound)).setCell ⟨w1.heap.size, 4, none⟩ (.int .i64 j.fuel)).setCell ⟨w1.heap.size, 5, none⟩ (.slice a5 n5 c5)).setCell ⟨w1.heap.size, 6, none⟩ (.int .i64 j.parts)) := HD3.out W2 hb2
               clear hfin hb2
               obtain ⟨W4, hW4⟩ : ∃ W4 : World, W4 = (((((((W2.setCell ⟨w1.heap.size, 0, none⟩ (.int .i64 j.id)).setCell ⟨w1.heap.size, 1, none⟩ (.string y)).setCell ⟨w1.heap.size, 2, none⟩ (.int .i64 j.agg)).setCell ⟨w1.heap.size, 3, none⟩ (.int .i64 j.bound)).setCell ⟨w1.heap.size, 4, none⟩ (.int .i64 j.fuel)).setCell ⟨w1.heap.size, 5, none⟩ (.slice a5 n5 c5)).setCell ⟨w1.heap.size, 6, none⟩ (.int .i64 j.parts)) := ⟨_, rfl⟩
               rw [← hW4] at hbj hb4 ⊢
               clear hW4
               obtain ⟨bj, hbje⟩ : ∃ bj : Nat, bj = w1.heap.size := ⟨_, rfl⟩
               rw [← hbje] at hbj ⊢
               clear hbje)
            | (have hbj : Blk7 (W2.alloc (.cells #[.int .i64 j.id, .string y, .int .i64 j.agg, .int .i64 j.bound, .int .i64 j.fuel, .slice a5 n5 c5, .int .i64 j.parts] 51)) W2.heap.size (.int .i64 j.id) (.string y) (.int .i64 j.agg) (.int .i64 j.bound) (.int .i64 j.fuel) (.slice a5 n5 c5) (.int .i64 j.parts) := hfin
               have hb4 : Below W0.heap.size W0 (W2.alloc (.cells #[.int .i64 j.id, .string y, .int .i64 j.agg, .int .i64 j.bound, .int .i64 j.fuel, .slice a5 n5 c5, .int .i64 j.parts] 51)) := HD2.out W2 hb2
               clear hfin hb2
               obtain ⟨W4, hW4⟩ : ∃ W4 : World, W4 = (W2.alloc (.cells #[.int .i64 j.id, .string y, .int .i64 j.agg, .int .i64 j.bound, .int .i64 j.fuel, .slice a5 n5 c5, .int .i64 j.parts] 51)) := ⟨_, rfl⟩
               rw [← hW4] at hbj hb4 ⊢
               clear hW4
               obtain ⟨bj, hbje⟩ : ∃ bj : Nat, bj = W2.heap.size := ⟨_, rfl⟩
               rw [← hbje] at hbj ⊢
               clear hbje)
          all_goals (
            have HBJ := hidM hbj
            have HB4 := hidM hb4
            have HC := hidM (show ∀ W, Below W4.heap.size W4 W → (W.cell? ⟨bj, 0, none⟩ = some (.int .i64 j.id) ∧ W.cell? ⟨bj, 1, none⟩ = some (.string y) ∧ W.cell? ⟨bj, 2, none⟩ = some (.int .i64 j.agg) ∧ W.cell? ⟨bj, 3, none⟩ = some (.int .i64 j.bound) ∧ W.cell? ⟨bj, 4, none⟩ = some (.int .i64 j.fuel) ∧ W.cell? ⟨bj, 5, none⟩ = some (.slice a5 n5 c5) ∧ W.cell? ⟨bj, 6, none⟩ = some (.int .i64 j.parts)) ∧ W.cell? ⟨w.heap.size, 9, none⟩ = some (.slice ar lr.length cr) ∧ W.cell? ⟨w.heap.size, 12, none⟩ = some (.string x) ∧ Below W0.heap.size W0 W from fun W hW => by
              obtain ⟨-, -, -, -, -, -, -, -, -, e9, -, -, e12⟩ := (HA.out W (nxt hb4 hW)).cells
              exact ⟨(hbj.below hW).cell, e9, e12, nxt hb4 hW⟩)
            clear hbj hb4 HPUT HNEW HD1 HD2 HD3 HD4 HD5 HKEEP HSS HJB hcy
            obtain ⟨⟨s0, s1, s2, s3, s4, s5, s6⟩, s9, s12, -⟩ := HC.out W4 (Below.refl _ _)
            have hl5 : lr.length ≤ 100000 := by have := HLR.out; omega
            have H5 := hidM (copyRecs_any (.slice ar lr.length cr) lr W4 (HRC.out W4 HB4.out) hl5)
            have HM1 := hidM (fun (W : World) (v : Value) (hv : RS W v lr) (hW : Below W0.heap.size W0 W) => lmap_any (j.with y) a5 n5 c5 v lr W hv HWL.out hl5 hys HFU.out (HENV.out W hW))
            have HM2 := hidM (fun (W : World) (hW : Below W0.heap.size W0 W) => rmap_any (j.with y) a5 n5 c5 (.slice ar lr.length cr) lr W (HRC.out W hW) hl5 hys (Nat.lt_of_lt_of_le (HHAL.out W0 (Below.refl _ _)).pos hW.size |> fun h => by omega))
            have HG1 := hidM (fun (W : World) (v : Value) (hv : RS W v lr) (hW : Below W0.heap.size W0 W) => lgath_any (j.with y) a5 n5 c5 v lr W hv HWL.out hl5 hys HFU.out (HENV.out W hW) (HHAL.out W hW))
            have HG2 := hidM (fun (W : World) (hW : Below W0.heap.size W0 W) => rgath_any (j.with y) a5 n5 c5 (.slice ar lr.length cr) lr W (HRC.out W hW) HWL.out hl5 hys (Nat.lt_of_lt_of_le (HHAL.out W0 (Below.refl _ _)).pos hW.size |> fun h => by omega))
            have hml := mapP_len (progOf (j.with y).prog) (j.with y).agg (j.with y).bound (j.with y).fuel lr
            have hml : (mapRes (j.with y) lr).1.length ≤ 256 := hml
            have hgs := gath_size (j.with y) lr
            obtain ⟨⟨M1, M2⟩, hM⟩ : ∃ M, M = mapRes (j.with y) lr := ⟨_, rfl⟩
            obtain ⟨⟨G1, G2⟩, hG⟩ : ∃ G, G = gathRes (j.with y) lr := ⟨_, rfl⟩
            rw [← hM] at HM1 HM2 hml
            rw [← hG] at HG1 HG2 hgs
            simp only at HM1 HM2 HG1 HG2 hml hgs
            have hadd : ∀ W, (Op.stringOp .add G1 ⟨#[120]⟩).run Tryz.prog W = .ok (.string (G1 ++ ⟨#[120]⟩)) W := fun W => run_string_add_sum W _ _ (by have : (⟨#[120]⟩ : ByteArray).size = 1 := rfl; omega)
            have HSZ := hidM (And.intro hml hgs)
            clear hM hG hml hgs
            go_wp2_with (first
              | (go_at_call 11; refine H5.out.mono ?_; clear H5; rintro e W5 ⟨v5, rfl, ho5, hb5⟩; obtain ⟨a6, c6, rfl, -⟩ := ho5.capM; have HO5 := hidM ho5; clear ho5; obtain ⟨⟨t0, t1, t2, t3, t4, t5, t6⟩, t9, -, hB5⟩ := HC.out W5 hb5; have HM1b := hidM (HM1.out W5 _ (RS.own HO5.out) hB5))
              | (go_at_call 61; refine HM1b.out.mono ?_; clear HM1b; rintro e W6 ⟨⟨v6, rfl, ho6⟩, hb6⟩; obtain ⟨a7, c7, rfl, -⟩ := ho6.capM; have HO6 := hidM ho6; clear ho6; have h46 := nxt hb5 hb6; obtain ⟨⟨q0, q1, q2, q3, q4, q5, q6⟩, q9, -, hB6⟩ := HC.out W6 h46; have HM2b := hidM (HM2.out W6 hB6))
              | (go_at_call 70; refine HM2b.out.mono ?_; clear HM2b; rintro e W7 ⟨⟨v7, rfl, ho7⟩, hb7⟩; obtain ⟨a8, c8, rfl, -⟩ := ho7.capM; have HO7 := hidM ho7; clear ho7; have h47 := nxt h46 hb7; obtain ⟨⟨u0, u1, u2', u3, u4', u5', u6'⟩, u9', -, hB7⟩ := HC.out W7 h47; have HG1b := hidM (HG1.out W7 _ (RS.own (HO5.out.below (nxt hb6 hb7))) hB7))
              | (go_at_call 39; refine HG1b.out.mono ?_; clear HG1b; rintro e W8 ⟨rfl, hb8⟩; have h48 := nxt h47 hb8; obtain ⟨⟨x0, x1, x2, x3, x4, x5, x6⟩, x9, -, hB8⟩ := HC.out W8 h48; have HG2b := hidM (HG2.out W8 hB8))
              | (go_at_call 71; refine HG2b.out.mono ?_; clear HG2b; rintro e W9 ⟨rfl, hb9⟩; have h49 := nxt h48 hb9; obtain ⟨⟨y0, y1, y2, y3, y4, y5, y6⟩, y9, y12, hB9⟩ := HC.out W9 h49; have HE1 := hidM (eqrecs_any _ _ M1 W9 (RS.own (HO6.out.below (nxt hb7 (nxt hb8 hb9)))) (RS.own (HO7.out.below (nxt hb8 hb9))) (by have := HSZ.out.1; omega)); have HE2 := hidM (fun W (hW : Below W9.heap.size W9 W) => eqrecs_any _ (.slice ar lr.length cr) lr W (RS.own (HO5.out.below (nxt hb6 (nxt hb7 (nxt hb8 (nxt hb9 hW)))))) (HRC.out W (nxt hB9 hW)) hl5))
              | (go_at_call 14; refine (HN.out _ _).mono ?_; rintro e Wn ⟨rfl, hwn⟩; subst Wn)
              | (go_at_call 72; refine HE1.out.mono ?_; clear HE1; rintro e W10 ⟨rfl, hd10⟩; have h910 := hd10.below W9.heap.size; obtain ⟨-, z9, z12, hB10⟩ := HC.out W10 (nxt h49 h910); have HE2b := hidM (HE2.out W10 h910))
              | (go_at_call 72; refine HE2b.out.mono ?_; clear HE2b; rintro e W11 ⟨rfl, hd11⟩; have h911 := nxt h910 (hd11.below W10.heap.size); obtain ⟨-, -, zz12, hB11⟩ := HC.out W11 (nxt h49 h911)))
            obtain ⟨WT, hWT⟩ : ∃ WT : World, WT = W11.alloc (.cells #[.string G1, .string x, .string (G1 ++ ⟨#[120]⟩)] 9) := ⟨_, rfl⟩
            rw [← hWT]
            have hbT : Below W11.heap.size W11 WT := by rw [hWT]; exact (Below.refl _ _).alloc (Nat.le_refl _) _
            have hblk : WT.heap[W11.heap.size]? = some (.cells #[.string G1, .string x, .string (G1 ++ ⟨#[120]⟩)] 9 (0, 0)) := by rw [hWT]; exact heap_alloc_new W11 _
            have hbt := (Array.getElem?_eq_some_iff.1 hblk).1
            have HT := hidM (show ∀ k : Nat, k < 3 → ∃ tk : ByteArray, tk.size ≤ 100000 ∧ ∀ W, Below WT.heap.size WT W → W.cell? ⟨W11.heap.size, k, none⟩ = some (.string tk) from fun k hk => by
              have hc := fun W (hW : Below WT.heap.size WT W) => (hW.block W11.heap.size hbt).trans hblk
              match k, hk with
              | 0, _ => exact ⟨G1, by have := HSZ.out.2; omega, fun W hW => by simp [World.cell?, hc W hW]⟩
              | 1, _ => exact ⟨x, by have := HX5.out; omega, fun W hW => by simp [World.cell?, hc W hW]⟩
              | 2, _ => exact ⟨G1 ++ ⟨#[120]⟩, by have := HSZ.out.2; have h1 : (⟨#[120]⟩ : ByteArray).size = 1 := rfl; rw [ByteArray.size_append, h1]; omega, fun W hW => by simp [World.cell?, hc W hW]⟩)
            have HBT := hidM (nxt hB11 hbT)
            have HC2 := hidM (fun W (hW : Below WT.heap.size WT W) => HC.out W (nxt (nxt h49 h911) (nxt hbT hW)))
            have HWY2 := hidM (fun W => way_any j.agg j.bound W)
            rw [HWAY.out] at HWY2
            have HLO := hidM (fun (tk : ByteArray) (ht : tk.size ≤ 100000) (W : World) (hW : Below W0.heap.size W0 W) => lopen_any (j.with y) a5 n5 c5 tk W ht (HHAL.out W hW))
            have HRO := hidM (fun (tk : ByteArray) (ht : tk.size ≤ 100000) (W : World) => ropen_any (j.with y) a5 n5 c5 tk W HWAY.out ht)
            generalize W11.heap.size = bt at HT ⊢
            clear hWT hblk hbt hbT hadd HE2 HSZ
            go_loopw [15] (fun i wr => ∃ k : Nat, i = .int .i64 k ∧ k ≤ 3 ∧ Below WT.heap.size WT wr) (fun i _ => 4 - (intOf i).toNat)
            case atStart => exact ⟨0, rfl, by omega, Below.refl _ _⟩
            case round =>
              rename World => w2
              obtain ⟨k, rfl, hk, hb2⟩ := hrel
              have HB2 := hidM (nxt HBT.out hb2)
              have HB2' := hidM hb2
              by_cases hk3 : k < 3
              · obtain ⟨tk, hts, htc⟩ := HT.out k hk3
                have hk0 : (0 : Int) ≤ (k : Int) := by omega
                have hki : (k : Int) < 3 := by omega
                have HS4 := hidM (show ∀ W, Below w2.heap.size w2 W → ((W.cell? ⟨bj, 0, none⟩ = some (.int .i64 j.id) ∧ W.cell? ⟨bj, 1, none⟩ = some (.string y) ∧ W.cell? ⟨bj, 2, none⟩ = some (.int .i64 j.agg) ∧ W.cell? ⟨bj, 3, none⟩ = some (.int .i64 j.bound) ∧ W.cell? ⟨bj, 4, none⟩ = some (.int .i64 j.fuel) ∧ W.cell? ⟨bj, 5, none⟩ = some (.slice a5 n5 c5) ∧ W.cell? ⟨bj, 6, none⟩ = some (.int .i64 j.parts)) ∧ W.cell? ⟨bt, k, none⟩ = some (.string tk)) ∧ Below w2.heap.size w2 W from fun W hW => ⟨⟨(HC2.out W (nxt hb2 hW)).1, htc W (nxt hb2 hW)⟩, hW⟩)
                have HO1 := hidM (HLO.out tk hts)
                have HO2 := hidM (HRO.out tk hts)
                unfold openRes at HO1
                rw [show wayC (j.with y).agg (j.with y).bound = true from HWAY.out, if_pos rfl] at HO1
                have hsm := openP_small (agg := (j.with y).agg) (bound := (j.with y).bound) tk HWAY.out
                obtain ⟨⟨R1, R2⟩, hR⟩ : ∃ R, R = openP (j.with y).agg (j.with y).bound tk := ⟨_, rfl⟩
                rw [← hR] at HO1 HO2 hsm
                simp only at HO1 HO2 hsm
                have HSM := hidM hsm
                obtain ⟨⟨⟨m0, m1, m2, m3, m4, m5, m6⟩, m7⟩, -⟩ := HS4.out w2 (Below.refl _ _)
                clear hR hsm hts htc hb2 hk
                go_wp2
                go_region_held3 (fun W => ((W.cell? ⟨bj, 0, none⟩ = some (.int .i64 j.id) ∧ W.cell? ⟨bj, 1, none⟩ = some (.string y) ∧ W.cell? ⟨bj, 2, none⟩ = some (.int .i64 j.agg) ∧ W.cell? ⟨bj, 3, none⟩ = some (.int .i64 j.bound) ∧ W.cell? ⟨bj, 4, none⟩ = some (.int .i64 j.fuel) ∧ W.cell? ⟨bj, 5, none⟩ = some (.slice a5 n5 c5) ∧ W.cell? ⟨bj, 6, none⟩ = some (.int .i64 j.parts)) ∧ W.cell? ⟨bt, k, none⟩ = some (.string tk)) ∧ Below w2.heap.size w2 W)
                  (first
                    | with_reducible exact HS4.out _ (Below.refl w2.heap.size w2).drew
                    | with_reducible exact HS4.out _ (nxt (Below.refl w2.heap.size w2).drew hb3))
                  (first
                    | (go_at_call 73; refine (HO1.out w2.drew HB2.out.drew).mono ?_; rintro e W12 ⟨⟨v12, rfl, ho12⟩, hb3⟩; obtain ⟨a12, c12, rfl⟩ := ho12.slice))
                have hb212 := nxt (Below.refl w2.heap.size w2).drew hb3
                have HO12 := hidM ho12
                clear ho12
                obtain ⟨⟨⟨o0, o1, o2, o3, o4, o5, o6⟩, o7⟩, -⟩ := HS4.out W12 hb212
                have HS5 := hidM (show ∀ W, Below W12.heap.size W12 W → ((W.cell? ⟨bj, 0, none⟩ = some (.int .i64 j.id) ∧ W.cell? ⟨bj, 1, none⟩ = some (.string y) ∧ W.cell? ⟨bj, 2, none⟩ = some (.int .i64 j.agg) ∧ W.cell? ⟨bj, 3, none⟩ = some (.int .i64 j.bound) ∧ W.cell? ⟨bj, 4, none⟩ = some (.int .i64 j.fuel) ∧ W.cell? ⟨bj, 5, none⟩ = some (.slice a5 n5 c5) ∧ W.cell? ⟨bj, 6, none⟩ = some (.int .i64 j.parts)) ∧ W.cell? ⟨bt, k, none⟩ = some (.string tk)) ∧ Below W12.heap.size W12 W from fun W hW => ⟨(HS4.out W (nxt hb212 hW)).1, hW⟩)
                have HB212 := hidM hb212
                clear hb212 hb3
                go_wp2_with (first
                  | (go_at_call 23; refine (HWY2.out _).mono ?_; rintro e Wn ⟨rfl, hwn⟩; subst Wn))
                go_region_held3 (fun W => ((W.cell? ⟨bj, 0, none⟩ = some (.int .i64 j.id) ∧ W.cell? ⟨bj, 1, none⟩ = some (.string y) ∧ W.cell? ⟨bj, 2, none⟩ = some (.int .i64 j.agg) ∧ W.cell? ⟨bj, 3, none⟩ = some (.int .i64 j.bound) ∧ W.cell? ⟨bj, 4, none⟩ = some (.int .i64 j.fuel) ∧ W.cell? ⟨bj, 5, none⟩ = some (.slice a5 n5 c5) ∧ W.cell? ⟨bj, 6, none⟩ = some (.int .i64 j.parts)) ∧ W.cell? ⟨bt, k, none⟩ = some (.string tk)) ∧ Below W12.heap.size W12 W)
                  (first
                    | with_reducible exact HS5.out _ (Below.refl W12.heap.size W12).drew
                    | with_reducible exact HS5.out _ (nxt (Below.refl W12.heap.size W12).drew hb4))
                  (first
                    | (go_at_call 74; refine (HO2.out W12.drew).mono ?_; rintro e W14 ⟨⟨v14, rfl, ho14⟩, hb4⟩; obtain ⟨a14, c14, rfl⟩ := ho14.slice))
                have hb124 := nxt (Below.refl W12.heap.size W12).drew hb4
                have HEQ := hidM (eqrows_any _ _ R1 W14 (HO12.out.below hb124).ws ho14.ws HSM.out.1 HSM.out.2)
                have HB24 := hidM (nxt HB212.out hb124)
                clear ho14 hb4 hb124
                go_wp2_with (first
                  | (go_at_call 14; refine (HN.out _ _).mono ?_; rintro e Wn ⟨rfl, hwn⟩; subst Wn)
                  | (go_at_call 19; refine HEQ.out.mono ?_; clear HEQ; rintro e W15 ⟨rfl, hb15⟩))
                go_roundw
                case rel => exact ⟨k + 1, by go_num, by omega, nxt HB2'.out (nxt HB24.out hb15)⟩
                case measure => simp [intOf]; omega
              · have hk3' : ¬ (k : Int) < 3 := by omega
                go_wp2
                go_roundw
                case rel => exact ⟨n + 1, by go_num, by omega, by omega, HB2.out⟩
                case measure => simp [intOf]; omega)
        · have hn5' : ¬ (n : Int) < 6 := by omega
          have hnl' : (n : Int) < (l.length : Int) := by omega
          have HK2 := hidM (HK.out w1 (HENV.out _ HBR.out) (HHAL.out _ HBR.out))
          go_wp2_with (go_at_call 21; refine HK2.out.mono ?_; rintro e W8 ⟨rfl, hb8⟩)
          go_ret
          exact ⟨rfl, nxt HB.out (nxt HBR.out hb8)⟩
      · have hnl' : ¬ (n : Int) < (l.length : Int) := by omega
        have HK2 := hidM (HK.out w1 (HENV.out _ HBR.out) (HHAL.out _ HBR.out))
        go_wp2_with (go_at_call 21; refine HK2.out.mono ?_; rintro e W8 ⟨rfl, hb8⟩)
        go_ret
        exact ⟨rfl, nxt HB.out (nxt HBR.out hb8)⟩
end Go.Proofs.YtaagllbcmgnbnaaGreatDoor
/- The six of one way: their walk. -/
namespace Go.Proofs.YtaagllbcmgnbnaaGreatDoor
open Go.RowKit
set_option linter.unusedVariables false
set_option maxRecDepth 100000

theorem BlkQ.free {W : World} {b : Nat} {j : Jb} {v5 vs vl vr vf vn : Value} {x : ByteArray} (h : BlkQ W b j v5 vs vl vr vf vn x) (o : Nat) : W.frozen? ⟨b, o, none⟩ = false := by
  unfold BlkQ at h
  simp [World.frozen?, h]
theorem BlkQ.agg {W : World} {b : Nat} {j : Jb} {v5 vs vl vr vf vn : Value} {x : ByteArray} (h : BlkQ W b j v5 vs vl vr vf vn x) (a : Int) : BlkQ (W.setCell ⟨b, 2, none⟩ (.int .i64 a)) b ⟨j.id, j.prog, a, j.bound, j.fuel, j.parts⟩ v5 vs vl vr vf vn x := by
  unfold BlkQ at h ⊢
  rw [heap_setCell_same W b 2 _ 59 (.int .i64 a) h]
  rfl
theorem BlkQ.bound {W : World} {b : Nat} {j : Jb} {v5 vs vl vr vf vn : Value} {x : ByteArray} (h : BlkQ W b j v5 vs vl vr vf vn x) (a : Int) : BlkQ (W.setCell ⟨b, 3, none⟩ (.int .i64 a)) b ⟨j.id, j.prog, j.agg, a, j.fuel, j.parts⟩ v5 vs vl vr vf vn x := by
  unfold BlkQ at h ⊢
  rw [heap_setCell_same W b 3 _ 59 (.int .i64 a) h]
  rfl
set_option maxHeartbeats 1600000 in
theorem way13_any (ag : Int) (hag : 1 ≤ ag ∧ ag ≤ 6) (j : Jb) (a5 : Option Addr) (n5 c5 : Nat) (vs vl vr vf vn : Value) (l : List ByteArray) (f : Fo) (lr : List Rc) (lf : List Int) (x : ByteArray) (w : World) (h : In13 w j n5 vs vl vr vf vn l f lr lf x) (hE : Env w) (hH : Halves w) :
    Calls Tryz.prog 26 #[ask13V j (.slice a5 n5 c5) vs vl vr vf vn x, .int .i64 ag] w (BoolR w true) := by
  have hst : ∀ (W : World) (o : Obj), Below W.heap.size W (W.alloc o) := fun W o => (Below.refl _ _).alloc (Nat.le_refl _) _
  obtain ⟨sa, sc, hvs, -⟩ := h.e.s.1
  obtain ⟨al, cl, hvl⟩ := h.e.f.1.val
  obtain ⟨ar, cr, hvr, -⟩ := h.e.r.1
  obtain ⟨af, cf, hvf, -⟩ := h.e.n.1
  obtain ⟨an, nn, cn, hvn⟩ := h.n
  subst hvs hvl hvr hvf hvn
  obtain ⟨W0, hW0⟩ : ∃ W0 : World, W0 = w.alloc (ask13O j (.slice a5 n5 c5) (.slice sa l.length sc) (.slice al f.len cl) (.slice ar lr.length cr) (.slice af lf.length cf) (.slice an nn cn) x) := ⟨_, rfl⟩
  have hA := BlkQ.new w j (.slice a5 n5 c5) (.slice sa l.length sc) (.slice al f.len cl) (.slice ar lr.length cr) (.slice af lf.length cf) (.slice an nn cn) x
  rw [← hW0] at hA
  have hb0 : Below w.heap.size w W0 := by rw [hW0]; exact hst _ _
  obtain ⟨W1, hW1⟩ : ∃ W1 : World, W1 = W0.alloc (ask13O j (.slice a5 n5 c5) (.slice sa l.length sc) (.slice al f.len cl) (.slice ar lr.length cr) (.slice af lf.length cf) (.slice an nn cn) x) := ⟨_, rfl⟩
  have hQ := BlkQ.new W0 j (.slice a5 n5 c5) (.slice sa l.length sc) (.slice al f.len cl) (.slice ar lr.length cr) (.slice af lf.length cf) (.slice an nn cn) x
  rw [← hW1] at hQ
  have hb1 : Below W0.heap.size W0 W1 := by rw [hW1]; exact hst _ _
  obtain ⟨p0, p1, p2, p3, p4, p5, p6, p7, p8, p9, p10, p11, p12⟩ := hA.cells
  have hA1 := hA.below hb1
  obtain ⟨a0, a1, a2, a3, a4, a5', a6, a7, a8, a9, a10, a11, a12⟩ := hA1.cells
  obtain ⟨q0, q1, q2, q3, q4, q5, q6, q7, q8, q9, q10, q11, q12⟩ := hQ.cells
  have f2 := hQ.free 2
  have hQ2 := hQ.agg ag
  obtain ⟨-, -, -, r3, -⟩ := hQ2.cells
  have f3 := hQ2.free 3
  have hQ3 := hQ2.bound 0
  have hle : w.heap.size ≤ W0.heap.size := hb0.size
  have hb3 : Below w.heap.size w ((W1.setCell ⟨W0.heap.size, 2, none⟩ (.int .i64 ag)).setCell ⟨W0.heap.size, 3, none⟩ (.int .i64 0)) := ((nxt hb0 hb1).setCell (p := ⟨W0.heap.size, 2, none⟩) hle _).setCell (p := ⟨W0.heap.size, 3, none⟩) hle _
  have HIN := hidM h
  have HENV := hidM hE
  have HHAL := hidM hH
  have HW0 := hidM hW0.symm
  have HW1 := hidM hW1.symm
  by_cases h6 : ag = 6
  · subst h6
    obtain ⟨-, -, -, s3, -⟩ := hQ3.cells
    have f3' := hQ3.free 3
    obtain ⟨m, hm⟩ : ∃ m : Nat, m = x.size % 32 := ⟨_, rfl⟩
    have hm32 : m < 32 := by omega
    obtain ⟨bd, hbd⟩ : ∃ bd : Int, bd = 1 + (m : Int) := ⟨_, rfl⟩
    have hw : wayC 6 bd = true := by unfold wayC; rw [if_pos rfl]; exact decide_eq_true (by omega)
    have hQ4 := hQ3.bound bd
    have hb4 := hb3.setCell (p := ⟨W0.heap.size, 3, none⟩) hle (.int .i64 bd)
    have HL := hidM (lawlm ⟨j.id, j.prog, 6, bd, j.fuel, j.parts⟩ a5 n5 c5 _ _ _ _ _ l f lr lf x _ ⟨(HIN.out.below hb4).fuel, (HIN.out.below hb4).prog, (HIN.out.below hb4).spl, (HIN.out.below hb4).e, ⟨an, nn, cn, rfl⟩, (HIN.out.below hb4).x⟩ hw (HENV.out.low hb4) (HHAL.out.below hb4 HHAL.out.pos))
    obtain ⟨t0, t1, t2, t3, t4, t5, t6, t7, t8, t9, t10, t11, t12⟩ := hQ4.cells
    have HB4 := hidM hb4
    have hxs := HIN.out.x
    have hrem : (x.size : Int).tmod 32 = (m : Int) := by rw [Int.tmod_eq_emod_of_nonneg (by omega)]; omega
    have hrem2 : (x.size : Int) % 32 = (m : Int) := by omega
    have hwr0 : IntKind.i64.wrap (m : Int) = (m : Int) := by rw [IntKind.wrap_i64]; omega
    have hwr : IntKind.i64.wrap (1 + (m : Int)) = bd := by rw [IntKind.wrap_i64, hbd]; omega
    have hwr2 : 1 + (m : Int) = bd := by omega
    clear hm hm32
    clear hA hQ hA1 hQ2 hQ3 hQ4 hb0 hb1 hb3 hb4 hst h hE hH hW0 hW1 hbd
    go_enter Tryz.func26, Tryz.ntmps26
    go_upto_region 1 with fail
    rw [HW0.out]
    go_upto_region 2 with fail
    rw [HW1.out]
    go_wp2_with (go_at_call 44; refine HL.out.mono ?_; rintro e W5 ⟨rfl, hb5⟩)
    go_ret
    exact ⟨rfl, nxt HB4.out hb5⟩
  · have hw : wayC ag 0 = true := by unfold wayC; rw [if_neg h6]; exact decide_eq_true (by omega)
    have HL := hidM (lawlm ⟨j.id, j.prog, ag, 0, j.fuel, j.parts⟩ a5 n5 c5 _ _ _ _ _ l f lr lf x _ ⟨(HIN.out.below hb3).fuel, (HIN.out.below hb3).prog, (HIN.out.below hb3).spl, (HIN.out.below hb3).e, ⟨an, nn, cn, rfl⟩, (HIN.out.below hb3).x⟩ hw (HENV.out.low hb3) (HHAL.out.below hb3 HHAL.out.pos))
    obtain ⟨t0, t1, t2, t3, t4, t5, t6, t7, t8, t9, t10, t11, t12⟩ := hQ3.cells
    have HB3 := hidM hb3
    have h6b : (ag == 6) = false := beq_eq_false_iff_ne.2 h6
    have h6d : decide (ag = 6) = false := decide_eq_false h6
    clear hA hQ hA1 hQ2 hQ3 hb0 hb1 hb3 hst h hE hH hW0 hW1
    go_enter Tryz.func26, Tryz.ntmps26
    go_upto_region 1 with fail
    rw [HW0.out]
    go_upto_region 2 with fail
    rw [HW1.out]
    go_wp2_with (go_at_call 44; refine HL.out.mono ?_; rintro e W5 ⟨rfl, hb5⟩)
    go_ret
    exact ⟨rfl, nxt HB3.out hb5⟩
theorem lawls_Sums (j : Jb) (a5 : Option Addr) (n5 c5 : Nat) (vs vl vr vf vn : Value) (l : List ByteArray) (f : Fo) (lr : List Rc) (lf : List Int) (x : ByteArray) (w : World) (h : In13 w j n5 vs vl vr vf vn l f lr lf x) (hE : Env w) (hH : Halves w) :
    Calls Tryz.prog 5 #[ask13V j (.slice a5 n5 c5) vs vl vr vf vn x] w (BoolR w true) := by
  obtain ⟨sa, sc, hvs, -⟩ := h.e.s.1
  obtain ⟨al, cl, hvl⟩ := h.e.f.1.val
  obtain ⟨ar, cr, hvr, -⟩ := h.e.r.1
  obtain ⟨af, cf, hvf, -⟩ := h.e.n.1
  obtain ⟨an, nn, cn, hvn⟩ := h.n
  subst hvs hvl hvr hvf hvn
  obtain ⟨W0, hW0⟩ : ∃ W0 : World, W0 = w.alloc (ask13O j (.slice a5 n5 c5) (.slice sa l.length sc) (.slice al f.len cl) (.slice ar lr.length cr) (.slice af lf.length cf) (.slice an nn cn) x) := ⟨_, rfl⟩
  have hA := BlkQ.new w j (.slice a5 n5 c5) (.slice sa l.length sc) (.slice al f.len cl) (.slice ar lr.length cr) (.slice af lf.length cf) (.slice an nn cn) x
  rw [← hW0] at hA
  have hb0 : Below w.heap.size w W0 := by rw [hW0]; exact (Below.refl _ _).alloc (Nat.le_refl _) _
  obtain ⟨p0, p1, p2, p3, p4, p5, p6, p7, p8, p9, p10, p11, p12⟩ := hA.cells
  have HL := hidM (way13_any 1 ⟨by decide, by decide⟩ j a5 n5 c5 _ _ _ _ _ l f lr lf x W0 (h.below hb0) (hE.low hb0) (hH.below hb0 hH.pos))
  have HW := hidM hW0.symm
  have HB := hidM hb0
  clear hA hW0 hb0 h hE hH
  go_enter Tryz.func5, Tryz.ntmps5
  go_wp2_with (go_at_call 26; rw [HW.out]; refine HL.out.mono ?_; rintro e W5 ⟨rfl, hb5⟩)
  go_ret
  exact ⟨rfl, nxt HB.out hb5⟩
theorem lawls_Counts (j : Jb) (a5 : Option Addr) (n5 c5 : Nat) (vs vl vr vf vn : Value) (l : List ByteArray) (f : Fo) (lr : List Rc) (lf : List Int) (x : ByteArray) (w : World) (h : In13 w j n5 vs vl vr vf vn l f lr lf x) (hE : Env w) (hH : Halves w) :
    Calls Tryz.prog 6 #[ask13V j (.slice a5 n5 c5) vs vl vr vf vn x] w (BoolR w true) := by
  obtain ⟨sa, sc, hvs, -⟩ := h.e.s.1
  obtain ⟨al, cl, hvl⟩ := h.e.f.1.val
  obtain ⟨ar, cr, hvr, -⟩ := h.e.r.1
  obtain ⟨af, cf, hvf, -⟩ := h.e.n.1
  obtain ⟨an, nn, cn, hvn⟩ := h.n
  subst hvs hvl hvr hvf hvn
  obtain ⟨W0, hW0⟩ : ∃ W0 : World, W0 = w.alloc (ask13O j (.slice a5 n5 c5) (.slice sa l.length sc) (.slice al f.len cl) (.slice ar lr.length cr) (.slice af lf.length cf) (.slice an nn cn) x) := ⟨_, rfl⟩
  have hA := BlkQ.new w j (.slice a5 n5 c5) (.slice sa l.length sc) (.slice al f.len cl) (.slice ar lr.length cr) (.slice af lf.length cf) (.slice an nn cn) x
  rw [← hW0] at hA
  have hb0 : Below w.heap.size w W0 := by rw [hW0]; exact (Below.refl _ _).alloc (Nat.le_refl _) _
  obtain ⟨p0, p1, p2, p3, p4, p5, p6, p7, p8, p9, p10, p11, p12⟩ := hA.cells
  have HL := hidM (way13_any 2 ⟨by decide, by decide⟩ j a5 n5 c5 _ _ _ _ _ l f lr lf x W0 (h.below hb0) (hE.low hb0) (hH.below hb0 hH.pos))
  have HW := hidM hW0.symm
  have HB := hidM hb0
  clear hA hW0 hb0 h hE hH
  go_enter Tryz.func6, Tryz.ntmps6
  go_wp2_with (go_at_call 26; rw [HW.out]; refine HL.out.mono ?_; rintro e W5 ⟨rfl, hb5⟩)
  go_ret
  exact ⟨rfl, nxt HB.out hb5⟩
theorem lawls_Mins (j : Jb) (a5 : Option Addr) (n5 c5 : Nat) (vs vl vr vf vn : Value) (l : List ByteArray) (f : Fo) (lr : List Rc) (lf : List Int) (x : ByteArray) (w : World) (h : In13 w j n5 vs vl vr vf vn l f lr lf x) (hE : Env w) (hH : Halves w) :
    Calls Tryz.prog 7 #[ask13V j (.slice a5 n5 c5) vs vl vr vf vn x] w (BoolR w true) := by
  obtain ⟨sa, sc, hvs, -⟩ := h.e.s.1
  obtain ⟨al, cl, hvl⟩ := h.e.f.1.val
  obtain ⟨ar, cr, hvr, -⟩ := h.e.r.1
  obtain ⟨af, cf, hvf, -⟩ := h.e.n.1
  obtain ⟨an, nn, cn, hvn⟩ := h.n
  subst hvs hvl hvr hvf hvn
  obtain ⟨W0, hW0⟩ : ∃ W0 : World, W0 = w.alloc (ask13O j (.slice a5 n5 c5) (.slice sa l.length sc) (.slice al f.len cl) (.slice ar lr.length cr) (.slice af lf.length cf) (.slice an nn cn) x) := ⟨_, rfl⟩
  have hA := BlkQ.new w j (.slice a5 n5 c5) (.slice sa l.length sc) (.slice al f.len cl) (.slice ar lr.length cr) (.slice af lf.length cf) (.slice an nn cn) x
  rw [← hW0] at hA
  have hb0 : Below w.heap.size w W0 := by rw [hW0]; exact (Below.refl _ _).alloc (Nat.le_refl _) _
  obtain ⟨p0, p1, p2, p3, p4, p5, p6, p7, p8, p9, p10, p11, p12⟩ := hA.cells
  have HL := hidM (way13_any 3 ⟨by decide, by decide⟩ j a5 n5 c5 _ _ _ _ _ l f lr lf x W0 (h.below hb0) (hE.low hb0) (hH.below hb0 hH.pos))
  have HW := hidM hW0.symm
  have HB := hidM hb0
  clear hA hW0 hb0 h hE hH
  go_enter Tryz.func7, Tryz.ntmps7
  go_wp2_with (go_at_call 26; rw [HW.out]; refine HL.out.mono ?_; rintro e W5 ⟨rfl, hb5⟩)
  go_ret
  exact ⟨rfl, nxt HB.out hb5⟩
theorem lawls_Maxs (j : Jb) (a5 : Option Addr) (n5 c5 : Nat) (vs vl vr vf vn : Value) (l : List ByteArray) (f : Fo) (lr : List Rc) (lf : List Int) (x : ByteArray) (w : World) (h : In13 w j n5 vs vl vr vf vn l f lr lf x) (hE : Env w) (hH : Halves w) :
    Calls Tryz.prog 8 #[ask13V j (.slice a5 n5 c5) vs vl vr vf vn x] w (BoolR w true) := by
  obtain ⟨sa, sc, hvs, -⟩ := h.e.s.1
  obtain ⟨al, cl, hvl⟩ := h.e.f.1.val
  obtain ⟨ar, cr, hvr, -⟩ := h.e.r.1
  obtain ⟨af, cf, hvf, -⟩ := h.e.n.1
  obtain ⟨an, nn, cn, hvn⟩ := h.n
  subst hvs hvl hvr hvf hvn
  obtain ⟨W0, hW0⟩ : ∃ W0 : World, W0 = w.alloc (ask13O j (.slice a5 n5 c5) (.slice sa l.length sc) (.slice al f.len cl) (.slice ar lr.length cr) (.slice af lf.length cf) (.slice an nn cn) x) := ⟨_, rfl⟩
  have hA := BlkQ.new w j (.slice a5 n5 c5) (.slice sa l.length sc) (.slice al f.len cl) (.slice ar lr.length cr) (.slice af lf.length cf) (.slice an nn cn) x
  rw [← hW0] at hA
  have hb0 : Below w.heap.size w W0 := by rw [hW0]; exact (Below.refl _ _).alloc (Nat.le_refl _) _
  obtain ⟨p0, p1, p2, p3, p4, p5, p6, p7, p8, p9, p10, p11, p12⟩ := hA.cells
  have HL := hidM (way13_any 4 ⟨by decide, by decide⟩ j a5 n5 c5 _ _ _ _ _ l f lr lf x W0 (h.below hb0) (hE.low hb0) (hH.below hb0 hH.pos))
  have HW := hidM hW0.symm
  have HB := hidM hb0
  clear hA hW0 hb0 h hE hH
  go_enter Tryz.func8, Tryz.ntmps8
  go_wp2_with (go_at_call 26; rw [HW.out]; refine HL.out.mono ?_; rintro e W5 ⟨rfl, hb5⟩)
  go_ret
  exact ⟨rfl, nxt HB.out hb5⟩
end Go.Proofs.YtaagllbcmgnbnaaGreatDoor
/- What comes in to the six of one way: opened. -/
namespace Go.Proofs.YtaagllbcmgnbnaaGreatDoor
open Go.ChangeShapes Go.WideShapes Go.ChangeAt Go.RowKit Go.Deep
open Go.ChangeMaps (open_string shut_string)
set_option linter.unusedVariables false
set_option maxRecDepth 100000

theorem Tryz.cellsAsk13 : Tryz.prog.cellsOf 59 = 13 := by kernel_rfl
theorem Tryz.cellsJob : Tryz.prog.cellsOf 51 = 7 := by kernel_rfl
theorem open_ask13 {H : Type} {enc : TypeId × Value → H} {W : World} {base : Nat} {v : Value} {d : DataW H} {p : List MemPlace} (hv : Value.okWide Tryz.prog W .any base 59 v) (h : DataW.Trod enc Tryz.prog W 0 (fun _ => true) true 59 v d p) (hlg : Light Tryz.prog 59 d) :
    ∃ j a5 n5 c5 vs vl vr vf vn l f lr lf x, v = ask13V j (.slice a5 n5 c5) vs vl vr vf vn x ∧ In13 W j n5 vs vl vr vf vn l f lr lf x := by
  obtain ⟨cs, rfl, hcs⟩ := okWide_struct Tryz.underlying59 hv
  rw [Tryz.cellsAsk13] at hcs
  obtain ⟨fuel, hf⟩ := h
  obtain ⟨xs, k, _, hD, _, hxl, hfld⟩ := DataW.trod_struct Tryz.underlying59 hf
  injection hD with hD _
  rw [hD] at hlg
  obtain ⟨cl⟩ := cs
  match cl, hcs, xs, hxl with
  | [v0, v1, v2, v3, v4, v5, v6, v7, v8, v9, v10, v11, v12], _, [y0, y1, y2, y3], _ =>
    have gJ := hfld 0 _ rfl
    have gE := hfld 1 _ rfl
    have gN := hfld 2 _ rfl
    have gX := hfld 3 _ rfl
    have hgJ := light_agg Tryz.underlying59 hlg (j := 0) (u := 51) (d := y0.1) rfl rfl
    have hgE := light_agg Tryz.underlying59 hlg (j := 1) (u := 57) (d := y1.1) rfl rfl
    have hgX := light_agg Tryz.underlying59 hlg (j := 3) (u := 9) (d := y3.1) rfl rfl
    simp [Tryz.cellsJob, Tryz.cellsAsk8, Tryz.cellsNums, Tryz.cells9, Value.cells] at gJ gE gN gX
    obtain ⟨xJ, kJ, _, hDJ, _, hxlJ, hfJ⟩ := DataW.trod_struct Tryz.underlying51 gJ
    rw [hDJ] at hgJ
    match xJ, hxlJ with
    | [j0, j1, j2, j3, j4, j5, j6], _ =>
      have b0 := hfJ 0 _ rfl
      have b1 := hfJ 1 _ rfl
      have b2 := hfJ 2 _ rfl
      have b3 := hfJ 3 _ rfl
      have b4 := hfJ 4 _ rfl
      have b5 := hfJ 5 _ rfl
      have b6 := hfJ 6 _ rfl
      have hb1 := light_agg Tryz.underlying51 hgJ (j := 1) (u := 9) (d := j1.1) rfl rfl
      have hb5 := light_agg Tryz.underlying51 hgJ (j := 5) (u := 49) (d := j5.1) rfl rfl
      simp [Tryz.cellsNums, Tryz.cells9, Tryz.cells3] at b0 b1 b2 b3 b4 b5 b6
      obtain ⟨n0, e0, _, w0⟩ := DataW.trod_int Tryz.underlying3 b0
      obtain ⟨n2, e2, _, w2⟩ := DataW.trod_int Tryz.underlying3 b2
      obtain ⟨n3, e3, _, w3⟩ := DataW.trod_int Tryz.underlying3 b3
      obtain ⟨n4, e4, _, w4⟩ := DataW.trod_int Tryz.underlying3 b4
      obtain ⟨n6, e6, _, w6⟩ := DataW.trod_int Tryz.underlying3 b6
      obtain ⟨s1, e1, d1, w1⟩ := DataW.trod_string Tryz.underlying9 b1
      rw [d1] at hb1
      have q1 := light_string hb1
      unfold reachBytes at q1
      obtain ⟨s12, e12, d12, w12⟩ := DataW.trod_string Tryz.underlying9 gX
      rw [d12] at hgX
      have q12 := light_string hgX
      unfold reachBytes at q12
      simp at e0 e1 e2 e3 e4 e6 e12
      subst e0 e1 e2 e3 e4 e6 e12
      obtain ⟨a5, n5, c5, e5⟩ : ∃ a len cap, v5 = .slice a len cap := by
        rcases open_slice Tryz.underlying49 b5 with ⟨hcs, _⟩ | ⟨x, l, c, m, n, D, Pl, hcs, _⟩
        · simp at hcs; exact ⟨_, _, _, hcs⟩
        · simp at hcs; exact ⟨_, _, _, hcs⟩
      subst e5
      obtain ⟨l5, h51, h52, h53, h54⟩ := open_nums b5 hb5
      have hn5 : n5 ≤ 17592186043904 := by omega
      obtain ⟨a11, n11, c11, e11⟩ : ∃ a len cap, v11 = .slice a len cap := by
        rcases open_slice Tryz.underlying49 gN with ⟨hcs, _⟩ | ⟨x, l, c, m, n, D, Pl, hcs, _⟩
        · simp at hcs; exact ⟨_, _, _, hcs⟩
        · simp at hcs; exact ⟨_, _, _, hcs⟩
      subst e11
      clear b0 b1 b2 b3 b4 b5 b6
      obtain ⟨xE, kE, _, hDE, _, hxlE, hfe⟩ := DataW.trod_struct Tryz.underlying57 gE
      rw [hDE] at hgE
      match xE, hxlE with
      | [ye0, ye1, ye2], _ =>
        have g0 := hfe 0 _ rfl
        have g1 := hfe 1 _ rfl
        have g2 := hfe 2 _ rfl
        have hg0 := light_agg Tryz.underlying57 hgE (j := 0) (u := 55) (d := ye0.1) rfl rfl
        have hg1 := light_agg Tryz.underlying57 hgE (j := 1) (u := 23) (d := ye1.1) rfl rfl
        have hg2 := light_agg Tryz.underlying57 hgE (j := 2) (u := 49) (d := ye2.1) rfl rfl
        simp [Tryz.cellsAsk, Tryz.cellsRecs, Tryz.cellsNums] at g0 g1 g2
        obtain ⟨xs', k', _, hD', _, hxl', hfld'⟩ := DataW.trod_struct Tryz.underlying55 g0
        rw [hD'] at hg0
        match xs', hxl' with
        | [z0, z1], _ =>
          have i0 := hfld' 0 _ rfl
          have i1 := hfld' 1 _ rfl
          have ig0 := light_agg Tryz.underlying55 hg0 (j := 0) (u := 52) (d := z0.1) rfl rfl
          have ig1 := light_agg Tryz.underlying55 hg0 (j := 1) (u := 53) (d := z1.1) rfl rfl
          simp [Tryz.cellsOps, Tryz.cellsStrs] at i0 i1
          obtain ⟨f, q1', q2, q3, q4, q5⟩ := open_ops k' v8 z1 i1 ig1
          obtain ⟨a, len, cap, e0⟩ : ∃ a len cap, v7 = .slice a len cap := by
            rcases open_slice Tryz.underlying52 i0 with ⟨hcs, _⟩ | ⟨x, l, c, m, n, D, Pl, hcs, _⟩
            · simp at hcs; exact ⟨_, _, _, hcs⟩
            · simp at hcs; exact ⟨_, _, _, hcs⟩
          subst e0
          obtain ⟨l, _, h2, h3, h4⟩ := open_strl (enc := enc) (p := z0.2) (d := z0.1) ⟨k', by simpa [Value.cells] using i0⟩ ig0
          obtain ⟨a2, len2, cap2, e2⟩ : ∃ a len cap, v9 = .slice a len cap := by
            rcases open_slice Tryz.underlying23 g1 with ⟨hcs, _⟩ | ⟨x, l, c, m, n, D, Pl, hcs, _⟩
            · simp at hcs; exact ⟨_, _, _, hcs⟩
            · simp at hcs; exact ⟨_, _, _, hcs⟩
          subst e2
          obtain ⟨lr, _, r2, r3, r4⟩ := open_recsE g1 hg1
          obtain ⟨a3, len3, cap3, e3⟩ : ∃ a len cap, v10 = .slice a len cap := by
            rcases open_slice Tryz.underlying49 g2 with ⟨hcs, _⟩ | ⟨x, l, c, m, n, D, Pl, hcs, _⟩
            · simp at hcs; exact ⟨_, _, _, hcs⟩
            · simp at hcs; exact ⟨_, _, _, hcs⟩
          subst e3
          obtain ⟨lf, _, n2', n3', n4'⟩ := open_nums g2 hg2
          exact ⟨⟨n0, _, n2, n3, n4, n6⟩, a5, n5, c5, _, _, _, _, _, l, f, lr, lf, _, rfl, ⟨i64_of_wf w4, q1, hn5, ⟨⟨h4, h2, h3⟩, ⟨q1', q2, q3, q4⟩, ⟨r4, r2, r3⟩, ⟨n4', n2', n3'⟩⟩, ⟨a11, n11, c11, rfl⟩, q12⟩⟩
end Go.Proofs.YtaagllbcmgnbnaaGreatDoor
