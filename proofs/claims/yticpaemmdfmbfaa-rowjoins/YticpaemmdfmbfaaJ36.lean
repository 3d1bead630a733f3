/- row.mayFollow; row.Check of rows that may be. -/
import Derived.Test.YticpaemmdfmbfaaJ30
import Derived.Test.YticpaemmdfmbfaaJ32
namespace Go.Proofs.Yticpaemmdfmbfaa
open Go.RowKit
set_option linter.unusedVariables false

/-- May a key stand behind rows? -/
def mayFol (l : List Rw) (k : Ky) : Bool := decide (l.length < 1536) && (match l.getLast? with | none => true | some r => ltK r.1 k)
theorem last_at {l : List Rw} (h : 0 < l.length) : ∃ r, l[l.length - 1]? = some r ∧ l.getLast? = some r := by
  obtain ⟨r, hr⟩ := getSome (l := l) (i := l.length - 1) (by omega)
  exact ⟨r, hr, by rw [List.getLast?_eq_getElem?]; exact hr⟩
set_option maxHeartbeats 800000 in
theorem mayFollow_any (v : Value) (l : List Rw) (k : Ky) (w : World) (h : WS w v l) (hl : l.length ≤ 100000) :
    Calls Try.prog 45 #[v, keyV k] w (BoolR w (mayFol l k)) := by
  obtain ⟨ka, kb⟩ := k
  obtain ⟨a, cap, rfl, hsh⟩ := h
  have hst : ∀ (W : World) (o : Obj), Below W.heap.size W (W.alloc o) := fun W o => (Below.refl _ _).alloc (Nat.le_refl _) _
  have hb0 := hst w (.cells #[.int .i64 ka, .string kb] 52)
  simp only [keyV]
  unfold mayFol
  by_cases hm : l.length < 1536
  · have hm' : (l.length : Int) < 1536 := by omega
    rw [decide_eq_true hm, Bool.true_and]
    by_cases h0 : l.length = 0
    · have : l = [] := List.length_eq_zero_iff.1 h0
      subst this
      have HB := hidM hb0
      clear hsh hst hb0
      go_enter Try.func45, Try.ntmps45
      go_wp2
      go_quiet (fail)
      go_wp2
      go_ret
      exact ⟨rfl, nxt HB.out (Drawn.below ⟨_, rfl⟩ _)⟩
    · obtain ⟨⟨⟨xa, xb⟩, xn, xl⟩, hr, hla⟩ := last_at (l := l) (by omega)
      rw [hla]
      rcases hsh with rfl | ⟨b, off, rfl, hb, hat⟩
      · simp at h0
      obtain ⟨W0, hW0⟩ : ∃ W0 : World, W0 = w.alloc (.cells #[.int .i64 ka, .string kb] 52) := ⟨_, rfl⟩
      rw [← hW0] at hb0
      have hbk : W0.heap[w.heap.size]? = some (.cells #[.int .i64 ka, .string kb] 52 (0, 0)) := by rw [hW0]; exact heap_alloc_new w _
      have hk := (Array.getElem?_eq_some_iff.1 hbk).1
      obtain ⟨m, hm1⟩ : ∃ m, l.length = m + 1 := ⟨l.length - 1, by omega⟩
      rw [show l.length - 1 = m by omega] at hr
      obtain ⟨c0, c1, -⟩ := (hat.below hb0 hb) m _ hr
      have hb' : b < W0.heap.size := by omega
      have HS := hidM (show ∀ W, Below W0.heap.size W0 W → W.cell? ⟨b, off + m * 4, none⟩ = some (.int .i64 xa) ∧ W.cell? ⟨b, off + m * 4 + 1, none⟩ = some (.string xb) ∧ W.cell? ⟨w.heap.size, 0, none⟩ = some (.int .i64 ka) ∧ W.cell? ⟨w.heap.size, 1, none⟩ = some (.string kb) from fun W hW => by
        obtain ⟨q0, q1⟩ := blk2 ((hW.block w.heap.size hk).trans hbk)
        exact ⟨(hW.cell (p := ⟨b, _, none⟩) hb').trans c0, (hW.cell (p := ⟨b, _, none⟩) hb').trans c1, q0, q1⟩)
      have HC := hidM (fun W => kcmp_any (xa, xb) (ka, kb) W)
      have hneg := cfK_lt0 (xa, xb) (ka, kb)
      obtain ⟨cf, hcf⟩ : ∃ cf : Int, cf = cfK (xa, xb) (ka, kb) := ⟨_, rfl⟩
      rw [← hcf] at HC hneg
      have HNEG := hidM hneg
      have HW := hidM hW0.symm
      have HB := hidM hb0
      have HL := hidM hm1
      have h0' : ¬ ((l.length : Int) = 0) := by omega
      have hsub : (l.length : Int) - 1 = (m : Int) := by omega
      have hd1 : decide ((l.length : Int) < 1536) = true := decide_eq_true hm'
      have hd2 : decide ((l.length : Int) = 0) = false := decide_eq_false h0'
      have hd3 : ((l.length : Int) == 0) = false := beq_eq_false_iff_ne.2 h0'
      have hmlt : m < l.length := by omega
      have hwr : IntKind.i64.wrap ((l.length : Int) - 1) = (m : Int) := by rw [IntKind.wrap_i64]; omega
      have hm0 : (0 : Int) ≤ (m : Int) := by omega
      have hmi : (m : Int) < (l.length : Int) := by omega
      clear hm1 hW0 hbk hat c0 c1 hb0 hst hcf hneg hr hla hsub
      go_enter Try.func45, Try.ntmps45
      go_wp2_with fail
      rw [HW.out]
      go_region_held3 (fun W => W.cell? ⟨b, off + m * 4, none⟩ = some (.int .i64 xa) ∧ W.cell? ⟨b, off + m * 4 + 1, none⟩ = some (.string xb) ∧ W.cell? ⟨w.heap.size, 0, none⟩ = some (.int .i64 ka) ∧ W.cell? ⟨w.heap.size, 1, none⟩ = some (.string kb))
        (first | exact HS.out _ (Below.refl _ _).drew | exact HS.out _ (below_grow _ _ _))
        (first | (go_at_call 53; refine (HC.out _).mono ?_; rintro e W3 ⟨rfl, q3, os3, rfl⟩))
      have hneg := HNEG.out
      go_wp2
      go_ret
      exact ⟨by rw [← hneg]; rfl, nxt HB.out (below_grow _ _ _)⟩
  · have hm' : ¬ (l.length : Int) < 1536 := by omega
    have hd1 : decide ((l.length : Int) < 1536) = false := decide_eq_false hm'
    rw [decide_eq_false hm, Bool.false_and]
    have HB := hidM hb0
    clear hsh hst hb0
    go_enter Try.func45, Try.ntmps45
    go_wp2
    go_quiet (fail)
    go_wp2
    go_ret
    exact ⟨rfl, nxt HB.out (Drawn.below ⟨_, rfl⟩ _)⟩
theorem OwnW.cap {w : World} {base : Nat} {v : Value} {l : List Rw} (h : OwnW w base v l) : CapOk v := by
  obtain ⟨xs, hx, -⟩ := h
  rcases hx.2 with ⟨rfl, -⟩ | ⟨g, cap, cur, rfl, -, -, hn, -⟩
  · exact Nat.le_refl _
  · exact hn
/-- Rows that may be. -/
def okRows (agg bound : Int) (l : List Rw) : Bool := wayC agg bound && (decide (l.length ≤ 1536) && l.all (fun r => decide (r.1.2.size ≤ 64) && chk agg bound r.2) && decide (RiseK l))
/-- .. so far. -/
structure OkTo (agg bound : Int) (l : List Rw) (k : Nat) : Prop where
  all : ∀ r ∈ l.take k, r.1.2.size ≤ 64 ∧ chk agg bound r.2 = true
  rise : RiseK (l.take k)
  len : k ≤ 1536
theorem OkTo.start (agg bound : Int) (l : List Rw) : OkTo agg bound l 0 := ⟨by simp, by simp [RiseK], by omega⟩
theorem rise_snocK {l : List Rw} {r : Rw} (h : RiseK l) (hl : ∀ x, l.getLast? = some x → ltK x.1 r.1 = true) : RiseK (l ++ [r]) := by
  unfold RiseK
  rw [List.pairwise_append]
  refine ⟨h, by simp, fun a ha b hb => ?_⟩
  simp at hb
  subst hb
  obtain ⟨i, hi⟩ := List.getElem?_of_mem ha
  obtain ⟨x, hx, hx'⟩ := last_at (l := l) (by have := (List.getElem?_eq_some_iff.1 hi).1; omega)
  have hlt := hl x hx'
  have hil := (List.getElem?_eq_some_iff.1 hi).1
  by_cases e : i = l.length - 1
  · rw [e, hx] at hi
    injection hi with hi
    rw [← hi]
    exact hlt
  · obtain ⟨h1, rfl⟩ := List.getElem?_eq_some_iff.1 hi
    obtain ⟨h2, rfl⟩ := List.getElem?_eq_some_iff.1 hx
    exact ltK_trans ((List.pairwise_iff_getElem.1 h) i (l.length - 1) h1 h2 (by omega)) hlt
theorem OkTo.step {agg bound : Int} {l : List Rw} {k : Nat} {r : Rw} (h : OkTo agg bound l k) (hr : l[k]? = some r) (h1 : r.1.2.size ≤ 64) (h2 : chk agg bound r.2 = true) (h3 : mayFol (l.take k) r.1 = true) : OkTo agg bound l (k + 1) := by
  have hstep : l.take (k + 1) = l.take k ++ [r] := by rw [List.take_add_one, hr]; rfl
  have hkl := (List.getElem?_eq_some_iff.1 hr).1
  unfold mayFol at h3
  rw [Bool.and_eq_true, decide_eq_true_eq, List.length_take, Nat.min_eq_left (by omega)] at h3
  refine ⟨fun x hx => ?_, ?_, by omega⟩
  · rw [hstep] at hx
    rcases List.mem_append.1 hx with hx | hx
    · exact h.all x hx
    · simp at hx; subst hx; exact ⟨h1, h2⟩
  · rw [hstep]
    refine rise_snocK h.rise fun x hx => ?_
    have := h3.2
    rw [hx] at this
    exact this
theorem OkTo.fin {agg bound : Int} {l : List Rw} {k : Nat} (h : OkTo agg bound l k) (hw : wayC agg bound = true) (hk : l.length ≤ k) : okRows agg bound l = true := by
  obtain ⟨h1, h2, h3⟩ := h
  rw [List.take_of_length_le hk] at h1 h2
  unfold okRows
  rw [hw, Bool.true_and, Bool.and_eq_true, Bool.and_eq_true, decide_eq_true_eq, decide_eq_true_eq, List.all_eq_true]
  exact ⟨⟨by omega, fun r hr => by rw [Bool.and_eq_true, decide_eq_true_eq]; exact h1 r hr⟩, h2⟩
theorem okRows_parts {agg bound : Int} {l : List Rw} (h : okRows agg bound l = true) : wayC agg bound = true ∧ l.length ≤ 1536 ∧ (∀ r ∈ l, r.1.2.size ≤ 64 ∧ chk agg bound r.2 = true) ∧ RiseK l := by
  unfold okRows at h
  rw [Bool.and_eq_true, Bool.and_eq_true, Bool.and_eq_true, decide_eq_true_eq, decide_eq_true_eq, List.all_eq_true] at h
  exact ⟨h.1, h.2.1.1, fun r hr => by have := h.2.1.2 r hr; rwa [Bool.and_eq_true, decide_eq_true_eq] at this, h.2.2⟩
theorem OkTo.bad {agg bound : Int} {l : List Rw} {k : Nat} {r : Rw} (h : OkTo agg bound l k) (hr : l[k]? = some r) (hb : ¬ (r.1.2.size ≤ 64 ∧ chk agg bound r.2 = true ∧ mayFol (l.take k) r.1 = true)) : okRows agg bound l = false := by
  cases ho : okRows agg bound l with
  | false => rfl
  | true =>
    exfalso
    obtain ⟨_, h1, h2, h3⟩ := okRows_parts ho
    have hkl := (List.getElem?_eq_some_iff.1 hr).1
    refine hb ⟨(h2 r (List.mem_of_getElem? hr)).1, (h2 r (List.mem_of_getElem? hr)).2, ?_⟩
    unfold mayFol
    rw [Bool.and_eq_true, decide_eq_true_eq, List.length_take, Nat.min_eq_left (by omega)]
    refine ⟨by omega, ?_⟩
    cases hg : (l.take k).getLast? with
    | none => rfl
    | some x =>
      have hx := hg
      rw [List.getLast?_eq_getElem?, List.length_take, Nat.min_eq_left (by omega)] at hx
      have hk0 : 0 < k := by
        rcases Nat.eq_zero_or_pos k with e | e
        · rw [e] at hx; simp at hx
        · exact e
      rw [List.getElem?_take_of_lt (by omega)] at hx
      obtain ⟨q1, rfl⟩ := List.getElem?_eq_some_iff.1 hx
      obtain ⟨q2, rfl⟩ := List.getElem?_eq_some_iff.1 hr
      exact (List.pairwise_iff_getElem.1 h3) (k - 1) k q1 q2 (by omega)
theorem WS.take {w : World} {a : Option Addr} {cap : Nat} {l : List Rw} (h : WS w (.slice a l.length cap) l) (k : Nat) (hk : k ≤ l.length) (cap' : Nat) : WS w (.slice a k cap') (l.take k) := by
  obtain ⟨a', c', e, h⟩ := h
  injection e with e1 e2 e3
  subst e1
  refine ⟨a, cap', by simp [hk], ?_⟩
  rcases h with rfl | ⟨b, off, rfl, hb, hat⟩
  · exact .inl (by simp)
  · refine .inr ⟨b, off, rfl, hb, fun i r hr => hat i r ?_⟩
    have hi := (List.getElem?_eq_some_iff.1 hr).1
    rw [List.length_take] at hi
    rwa [List.getElem?_take_of_lt (by omega)] at hr
end Go.Proofs.Yticpaemmdfmbfaa
namespace Go.Proofs.Yticpaemmdfmbfaa
open Go.RowKit
set_option linter.unusedVariables false
set_option maxRecDepth 100000

set_option maxHeartbeats 1600000 in
theorem rcheck_ok (agg bound : Int) (v : Value) (l : List Rw) (w : World) (h : WS w v l) (hls : ∀ r ∈ l, r.2.2.length ≤ 100000) (hcap : CapOk v) (hok0 : okRows agg bound l = true) :
    Calls Try.prog 23 #[.int .i64 agg, .int .i64 bound, v] w fun e w' => e = .returned (.int .i64 0) ∧ Below w.heap.size w w' := by
  have H1 := hidM (fun W => rway_any agg bound W)
  have HS := hidM h
  obtain ⟨a, cap, rfl, hsh⟩ := h
  obtain ⟨hw, hl, hkc, hri⟩ := okRows_parts hok0
  · rw [hw] at H1
    go_enter Try.func23, Try.ntmps23
    go_wp2_with (go_at_call 30; refine (H1.out _).mono ?_; rintro e W1 ⟨rfl, hb1⟩)
    go_loopw [15] (fun i wr => ∃ k : Nat, k ≤ l.length ∧ i = .int .i64 k ∧ OkTo agg bound l k ∧ Below w.heap.size w wr) (fun i _ => l.length - (intOf i).toNat)
    case atStart => exact ⟨0, by omega, rfl, OkTo.start _ _ _, hb1⟩
    case round =>
      clear hb1
      rename World => w0
      obtain ⟨k, hk, rfl, hok, hbel⟩ := hrel
      have hsz := hbel.size
      by_cases hlt : k < l.length
      · obtain ⟨⟨⟨ya, yb⟩, yn, yl⟩, hy⟩ := getSome hlt
        rcases hsh with rfl | ⟨b, off, rfl, hb, hat⟩
        · simp at hlt
        have hyl : yl.length ≤ 100000 := hls _ (List.mem_of_getElem? hy)
        obtain ⟨c0, c1, c2, s1, p1, c3, n1⟩ := (hat.below hbel hb) k _ hy
        simp only at c0 c1 c2 c3 n1
        obtain ⟨Wa, hWa⟩ : ∃ Wa : World, Wa = w0.alloc (.cells #[.int .i64 ya, .string yb, .int .i64 yn, .slice s1 yl.length p1] 67) := ⟨_, rfl⟩
        have hba : Below w0.heap.size w0 Wa := by rw [hWa]; exact (Below.refl _ _).alloc (Nat.le_refl _) _
        have B4 : Blk4 Wa w0.heap.size (.int .i64 ya) (.string yb) (.int .i64 yn) (.slice s1 yl.length p1) := by rw [hWa]; exact Blk4.new w0 _ _ _ _
        have HA := hidM hWa.symm
        have HR := hidM (show ∀ W, Below Wa.heap.size Wa W → W.cell? ⟨w0.heap.size, 0, none⟩ = some (.int .i64 ya) ∧ W.cell? ⟨w0.heap.size, 1, none⟩ = some (.string yb) ∧ W.cell? ⟨w0.heap.size, 2, none⟩ = some (.int .i64 yn) ∧ W.cell? ⟨w0.heap.size, 3, none⟩ = some (.slice s1 yl.length p1) ∧ Below Wa.heap.size Wa W from fun W hW =>
          ⟨(B4.below hW).cells.1, (B4.below hW).cells.2.1, (B4.below hW).cells.2.2.1, (B4.below hW).cells.2.2.2.1, hW⟩)
        have hbw : Below w.heap.size w Wa := hbel.trans (hba.mono hsz)
        have HC1 := hidM (fun W => kcheck_any (ya, yb) W)
        have HC2 := hidM (fun W (hW : Below Wa.heap.size Wa W) => check_any agg bound _ (yn, yl) W ⟨s1, p1, rfl, (n1.below hba).below hW⟩ hyl)
        have HC3 := hidM (fun W (hW : Below Wa.heap.size Wa W) => mayFollow_any (.slice (some ⟨b, off, none⟩) k cap) (l.take k) (ya, yb) W (WS.take (HS.out.below (nxt hbw hW)) k (by omega) cap) (by simp; omega))
        have HBW := hidM hbw
        have hkc' : k ≤ cap := Nat.le_trans hk hcap
        have hkl : k ≤ l.length := hk
        have HST := hidM (fun (h1 : yb.size ≤ 64) (h2 : chk agg bound (yn, yl) = true) (h3 : mayFol (l.take k) (ya, yb) = true) => hok.step hy h1 h2 h3)
        have hq : yb.size ≤ 64 ∧ chk agg bound (yn, yl) = true ∧ mayFol (l.take k) (ya, yb) = true := by
          by_cases h : yb.size ≤ 64 ∧ chk agg bound (yn, yl) = true ∧ mayFol (l.take k) (ya, yb) = true
          · exact h
          · have := hok.bad hy h
            rw [hok0] at this
            cases this
        obtain ⟨hq1, hq2, hq3⟩ := hq
        clear hWa hbel hat n1 hba hbw B4 hy hok hcap
        rw [if_pos (show (ya, yb).2.size ≤ 64 from hq1)] at HC1
        rw [hq2, show errC true = 0 from rfl] at HC2
        rw [hq3] at HC3
        have HO := hidM (HST.out hq1 hq2 hq3)
        clear hq1 hq2 hq3 HST hok0 hkc hri
        go_wp2_with fail
        rw [HA.out]
        go_region_held3 (fun W => W.cell? ⟨w0.heap.size, 0, none⟩ = some (.int .i64 ya) ∧ W.cell? ⟨w0.heap.size, 1, none⟩ = some (.string yb) ∧ W.cell? ⟨w0.heap.size, 2, none⟩ = some (.int .i64 yn) ∧ W.cell? ⟨w0.heap.size, 3, none⟩ = some (.slice s1 yl.length p1) ∧ Below Wa.heap.size Wa W)
          (first | exact HR.out _ (Below.refl _ _).drew | exact HR.out _ (nxt (Below.refl Wa.heap.size Wa).drew hb1) | exact HR.out _ (nxt (nxt (Below.refl Wa.heap.size Wa).drew hb1) hb2) | exact HR.out _ (nxt (nxt (nxt (Below.refl Wa.heap.size Wa).drew hb1) hb2) hb3))
          (first
            | (go_at_call 43; refine (HC1.out _).mono ?_; rintro e W1 ⟨rfl, hb1⟩)
            | (go_at_call 44; refine (HC2.out _ (‹_ ∧ _ ∧ _ ∧ _ ∧ Below Wa.heap.size Wa _›).2.2.2.2).mono ?_; rintro e W2 ⟨rfl, hb2⟩)
            | (go_at_call 45; refine (HC3.out _ (‹_ ∧ _ ∧ _ ∧ _ ∧ Below Wa.heap.size Wa _›).2.2.2.2).mono ?_; rintro e W3 ⟨rfl, hb3⟩))
        go_wp2
        go_roundw
        case rel => exact ⟨k + 1, by omega, by go_num, HO.out, nxt HBW.out (nxt (nxt (nxt (Below.refl Wa.heap.size Wa).drew hb1) hb2) hb3)⟩
        case measure => simp [intOf]; omega
      · have hlt' : l.length ≤ k := by omega
        go_wp2
        go_ret
        exact ⟨rfl, hbel⟩
end Go.Proofs.Yticpaemmdfmbfaa
