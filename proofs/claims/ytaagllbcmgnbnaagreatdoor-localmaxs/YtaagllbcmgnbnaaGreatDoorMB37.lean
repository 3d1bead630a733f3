/- Texts laid together: WCopy, WJoin, WRuns, MRRun, WJPlain, WChkX, WJoinX. -/
import Derived.Test.YtaagllbcmgnbnaaGreatDoorMB13
import Derived.Test.YtaagllbcmgnbnaaGreatDoorMB26
import Derived.Test.YtaagllbcmgnbnaaGreatDoorMB1
import Derived.Test.YtaagllbcmgnbnaaGreatDoorMB33
/- Rows copied: CopyRows. -/
namespace Go.Proofs.YtaagllbcmgnbnaaGreatDoor
open Go.RowKit
set_option linter.unusedVariables false
set_option maxRecDepth 100000
end Go.Proofs.YtaagllbcmgnbnaaGreatDoor
/- row.Join of runs that may be. -/
namespace Go.Proofs.YtaagllbcmgnbnaaGreatDoor
open Go.RowKit Go.Maps
set_option linter.unusedVariables false
set_option maxRecDepth 100000

/-- Runs of rows, and none longer than it may be. -/
def RunsC (w : World) (b off : Nat) (L : List (List Rw)) : Prop := ∀ (i : Nat) (l : List Rw), L[i]? = some l → ∃ u, w.cell? ⟨b, off + i, none⟩ = some u ∧ WS w u l ∧ CapOk u
def RnS (w : World) (v : Value) (L : List (List Rw)) : Prop := ∃ a cap, v = .slice a L.length cap ∧ (L = [] ∨ ∃ b off, a = some ⟨b, off, none⟩ ∧ b < w.heap.size ∧ RunsC w b off L)
theorem RunsC.below {w w' : World} {b off B : Nat} {L : List (List Rw)} (h : RunsC w b off L) (hb : Below w.heap.size w w') (hlt : b < w.heap.size) : RunsC w' b off L := fun i l hl => by
  obtain ⟨u, h1, h2, h3⟩ := h i l hl
  exact ⟨u, (hb.cell (p := ⟨b, _, none⟩) hlt).trans h1, h2.below hb, h3⟩
end Go.Proofs.YtaagllbcmgnbnaaGreatDoor
/- Runs of rows: copied, compared. -/
namespace Go.Proofs.YtaagllbcmgnbnaaGreatDoor
open Go.RowKit
set_option linter.unusedVariables false
set_option maxRecDepth 100000
/-- All rows of elements of type T stay. -/
def KeepT (T : TypeId) (w w' : World) : Prop := ∀ (g : Nat) (cur : Array Value), w.heap[g]? = some (.cells cur T (0, 0)) → w'.heap[g]? = some (.cells cur T (0, 0))
theorem KeepT.row {T T' : TypeId} (hT : T ≠ T') {W W' : World} {base sz n : Nat} {v : Value} {xs : List Value} (h : W.ownsRow base T' sz v n xs) (hg : W.grownBy W' v.ownBlock) : KeepT T W W' := fun g cur hh => by
  refine (hg.block g (Array.getElem?_eq_some_iff.1 hh).1 (fun e => ?_)).trans hh
  rcases h.2 with ⟨rfl, _⟩ | ⟨g', cap, cur', rfl, _, hb, _⟩
  · simp [Value.ownBlock] at e
  · have : g' = g := by simpa [Value.ownBlock] using e.symm
    subst this
    rw [hb] at hh
    injection hh with hh
    injection hh with _ hh
    exact hT hh.symm
theorem KeepT.below {T : TypeId} {w w' : World} (h : Below w.heap.size w w') : KeepT T w w' := fun g cur hg => by rw [h.block g (Array.getElem?_eq_some_iff.1 hg).1]; exact hg
theorem OwnX.keepT {w w' : World} {base : Nat} {v : Value} {xs : List Raw} (h : OwnX w base v xs) (k : KeepT 82 w w') : OwnX w' base v xs := by
  refine ⟨h.1, ?_⟩
  rcases h.2 with ⟨h1, h2⟩ | ⟨g, cap, cur, h1, h2, h3, h4⟩
  · exact .inl ⟨h1, h2⟩
  · exact .inr ⟨g, cap, cur, h1, h2, k g cur h3, h4⟩
theorem OwnW.keepT {w w' : World} {base : Nat} {v : Value} {l : List Rw} (h : OwnW w base v l) (hs : w.heap.size ≤ w'.heap.size) (k : KeepT 82 w w') (k2 : KeepT 2 w w') : OwnW w' base v l := by
  obtain ⟨xs, h1, h2⟩ := h
  exact ⟨xs, h1.keepT k, h2.keep ⟨hs, k2⟩⟩
/-- v owns the runs L: they, their rows and their sets lie from base on. -/
def OwnRs (w : World) (base : Nat) (v : Value) (L : List (List Rw)) : Prop := ∃ vs, w.ownsRow base 37 1 v vs.length vs ∧ vs.length = L.length ∧ ∀ (i : Nat) (u : Value) (l : List Rw), vs[i]? = some u → L[i]? = some l → OwnW w base u l
theorem OwnRs.nil (w : World) (base : Nat) : OwnRs w base (.slice none 0 0) [] := ⟨[], World.ownsRow_nil _ _ _ _, rfl, fun i u l h => by simp at h⟩
theorem ownsRow_below {w w' : World} {base n sz : Nat} {T : TypeId} {v : Value} {xs : List Value} (h : w.ownsRow base T sz v n xs) (hb : Below w.heap.size w w') : w'.ownsRow base T sz v n xs := by
  refine ⟨h.1, ?_⟩
  rcases h.2 with ⟨h1, h2⟩ | ⟨g, cap, cur, h1, h2, h3, h4⟩
  · exact .inl ⟨h1, h2⟩
  · exact .inr ⟨g, cap, cur, h1, h2, by rw [hb.block g (Array.getElem?_eq_some_iff.1 h3).1]; exact h3, h4⟩
theorem OwnRs.below {w w' : World} {base : Nat} {v : Value} {L : List (List Rw)} (h : OwnRs w base v L) (hb : Below w.heap.size w w') : OwnRs w' base v L := by
  obtain ⟨vs, h1, h2, h3⟩ := h
  exact ⟨vs, ownsRow_below h1 hb, h2, fun i u l hu hl => (h3 i u l hu hl).below hb⟩
theorem OwnW.slice {w : World} {base : Nat} {v : Value} {l : List Rw} (h : OwnW w base v l) : ∃ a c, v = .slice a l.length c := by
  obtain ⟨a, c, e, -⟩ := h.ws
  exact ⟨a, c, e⟩
/-- What the call owns may be read. -/
theorem OwnRs.rns {w : World} {base : Nat} {v : Value} {L : List (List Rw)} (h : OwnRs w base v L) : RnS w v L := by
  obtain ⟨vs, hx, hl, ha⟩ := h
  rcases hx.2 with ⟨rfl, h0⟩ | ⟨g, cap, cur, rfl, _, hb, _, _, _, ht⟩
  · have : vs = [] := List.length_eq_zero_iff.1 h0
    subst this
    have : L = [] := List.length_eq_zero_iff.1 hl.symm
    subst this
    exact ⟨none, 0, rfl, .inl rfl⟩
  · refine ⟨_, cap, by rw [hl], .inr ⟨g, 0, rfl, (Array.getElem?_eq_some_iff.1 hb).1, fun i l hi => ?_⟩⟩
    have hil : i < L.length := (List.getElem?_eq_some_iff.1 hi).1
    obtain ⟨u, hu⟩ := getSome (l := vs) (i := i) (by rw [hl]; exact hil)
    have ho := ha i u l hu hi
    refine ⟨u, ?_, ho.ws, ho.cap⟩
    have h0 := hu
    rw [← ht, List.getElem?_take_of_lt (by omega)] at h0
    rw [Nat.zero_add]
    simp only [World.cell?, hb]
    simpa using h0
end Go.Proofs.YtaagllbcmgnbnaaGreatDoor
/- The page's own Runs. -/
namespace Go.Proofs.YtaagllbcmgnbnaaGreatDoor
open Go.RowKit
set_option linter.unusedVariables false
set_option maxRecDepth 100000

theorem RS.sub {w : World} {b off cap : Nat} {l : List Rc} (h : RS w (.slice (some ⟨b, off, none⟩) l.length cap) l) (i n cap' : Nat) (hi : i < l.length) : RS w (.slice (some ⟨b, off + i * 3, none⟩) ((l.drop i).take n).length cap') ((l.drop i).take n) := by
  obtain ⟨a0, c', e, h⟩ := h
  injection e with e1 e2 e3
  subst e1
  refine ⟨_, cap', rfl, ?_⟩
  rcases h with rfl | ⟨b', off', e, hb, hat⟩
  · simp at hi
  · injection e with e
    injection e with e1 e2
    subst e1 e2
    refine .inr ⟨b, off + i * 3, rfl, hb, fun q r hr => ?_⟩
    have hq : q < n := by have := (List.getElem?_eq_some_iff.1 hr).1; rw [List.length_take] at this; omega
    rw [List.getElem?_take_of_lt hq, List.getElem?_drop] at hr
    have := hat _ _ hr
    rw [show off + (i + q) * 3 = off + i * 3 + q * 3 by omega] at this
    exact this
/-- All runs so far are folded. -/
def CutsTo (agg : Int) (bd n : Nat) (l : List Rc) (k : Nat) : Prop := ∀ c ∈ cutTo n l k, (foldR agg bd c).2 = 0
theorem CutsTo.start (agg : Int) (bd n : Nat) (l : List Rc) : CutsTo agg bd n l 0 := fun c hc => by simp [cutTo] at hc
theorem CutsTo.step {agg : Int} {bd n : Nat} {l : List Rc} {k : Nat} (h : CutsTo agg bd n l k) (hc : (foldR agg bd ((l.drop (k * n)).take n)).2 = 0) : CutsTo agg bd n l (k + 1) := fun c hm => by
  rw [cutTo_succ] at hm
  rcases List.mem_append.1 hm with hm | hm
  · exact h c hm
  · simp at hm; subst hm; exact hc
theorem CutsTo.fin {agg : Int} {bd n : Nat} {l : List Rc} {k : Nat} (h : CutsTo agg bd n l k) (hn : 1 ≤ n) (hk : k ≤ cutN n l) (hl : l.length ≤ k * n) : runsG agg bd (cutsM n l) = (rowsC agg bd (cutTo n l k), 0) := by
  have e : cutsM n l = cutTo n l k := by unfold cutsM; rw [← cutN_at hn hk hl]
  rw [e]
  exact runsG_ok h
end Go.Proofs.YtaagllbcmgnbnaaGreatDoor
/- What runs of rows come to. -/
namespace Go.Proofs.YtaagllbcmgnbnaaGreatDoor
open Go.RowKit
set_option linter.unusedVariables false
set_option maxRecDepth 100000
end Go.Proofs.YtaagllbcmgnbnaaGreatDoor
/- row.Check: its loop. -/
namespace Go.Proofs.YtaagllbcmgnbnaaGreatDoor
open Go.RowKit
set_option linter.unusedVariables false
set_option maxRecDepth 100000

set_option maxHeartbeats 6400000 in
theorem rcheck_any (agg bound : Int) (v : Value) (l : List Rw) (w : World) (h : WS w v l) (hl : l.length ≤ 100000) (hls : ∀ r ∈ l, r.2.2.length ≤ 100000) (hcap : CapOk v) :
    Calls Tryz.prog 52 #[.int .i64 agg, .int .i64 bound, v] w fun e w' => e = .returned (.int .i64 (errC (okRows agg bound l))) ∧ Below w.heap.size w w' := by
  have H1 := hidM (fun W => rway_any agg bound W)
  have HS := hidM h
  obtain ⟨a, cap, rfl, hsh⟩ := h
  cases hw : wayC agg bound with
  | false =>
    rw [hw] at H1
    rw [show okRows agg bound l = false by unfold okRows; rw [hw, Bool.false_and]]
    go_enter Tryz.func52, Tryz.ntmps52
    go_wp2_with (go_at_call 45; refine (H1.out _).mono ?_; rintro e W1 ⟨rfl, hb1⟩)
    go_ret
    exact ⟨rfl, hb1⟩
  | true =>
    rw [hw] at H1
    go_enter Tryz.func52, Tryz.ntmps52
    go_wp2_with (go_at_call 45; refine (H1.out _).mono ?_; rintro e W1 ⟨rfl, hb1⟩)
    go_loopw [15] (fun i wr => ∃ k : Nat, k ≤ l.length ∧ i = .int .i64 k ∧ OkTo agg bound l k ∧ Below w.heap.size w wr) (fun i _ => l.length - (intOf i).toNat)
    case atStart => exact ⟨0, by omega, rfl, OkTo.start _ _ _, hb1⟩
    case round =>
      clear hb1
      rename World => w0
      obtain ⟨k, hk, rfl, hok, hbel⟩ := hrel
      have hsz := hbel.size
      by_cases hlt : k < l.length
      · obtain ⟨⟨⟨ya, yb⟩, yn, yl⟩, hy⟩ := getSome hlt
        rcases hsh with rfl | ⟨b, off, rfl, hb, hat⟩
        · simp at hlt
        have hyl : yl.length ≤ 100000 := hls _ (List.mem_of_getElem? hy)
        obtain ⟨c0, c1, c2, s1, p1, c3, n1⟩ := (hat.below hbel hb) k _ hy
        simp only at c0 c1 c2 c3 n1
        obtain ⟨Wa, hWa⟩ : ∃ Wa : World, Wa = w0.alloc (.cells #[.int .i64 ya, .string yb, .int .i64 yn, .slice s1 yl.length p1] 82) := ⟨_, rfl⟩
        have hba : Below w0.heap.size w0 Wa := by rw [hWa]; exact (Below.refl _ _).alloc (Nat.le_refl _) _
        have B4 : Blk4 Wa w0.heap.size (.int .i64 ya) (.string yb) (.int .i64 yn) (.slice s1 yl.length p1) := by rw [hWa]; exact Blk4.new w0 _ _ _ _
        have HA := hidM hWa.symm
        have HR := hidM (show ∀ W, Below Wa.heap.size Wa W → W.cell? ⟨w0.heap.size, 0, none⟩ = some (.int .i64 ya) ∧ W.cell? ⟨w0.heap.size, 1, none⟩ = some (.string yb) ∧ W.cell? ⟨w0.heap.size, 2, none⟩ = some (.int .i64 yn) ∧ W.cell? ⟨w0.heap.size, 3, none⟩ = some (.slice s1 yl.length p1) ∧ Below Wa.heap.size Wa W from fun W hW =>
          ⟨(B4.below hW).cells.1, (B4.below hW).cells.2.1, (B4.below hW).cells.2.2.1, (B4.below hW).cells.2.2.2.1, hW⟩)
        have hbw : Below w.heap.size w Wa := hbel.trans (hba.mono hsz)
        have HC1 := hidM (fun W => kcheck_any (ya, yb) W)
        have HC2 := hidM (fun W (hW : Below Wa.heap.size Wa W) => check_any agg bound _ (yn, yl) W ⟨s1, p1, rfl, (n1.below hba).below hW⟩ hyl)
        have HC3 := hidM (fun W (hW : Below Wa.heap.size Wa W) => mayFollow_any (.slice (some ⟨b, off, none⟩) k cap) (l.take k) (ya, yb) W (WS.take (HS.out.below (nxt hbw hW)) k (by omega) cap) (by simp; omega))
        have HBW := hidM hbw
        have hkc : k ≤ cap := Nat.le_trans hk hcap
        have hkl : k ≤ l.length := hk
        have HST := hidM (fun (h1 : yb.size ≤ 64) (h2 : chk agg bound (yn, yl) = true) (h3 : mayFol (l.take k) (ya, yb) = true) => hok.step hy h1 h2 h3)
        have HBAD := hidM (fun (h : ¬ (yb.size ≤ 64 ∧ chk agg bound (yn, yl) = true ∧ mayFol (l.take k) (ya, yb) = true)) => hok.bad hy h)
        clear hWa hbel hat n1 hba hbw B4 hy hok hcap
        by_cases hq1 : yb.size ≤ 64
        · rw [if_pos (show (ya, yb).2.size ≤ 64 from hq1)] at HC1
          cases hq2 : chk agg bound (yn, yl) with
          | true =>
           rw [hq2, show errC true = 0 from rfl] at HC2
           cases hq3 : mayFol (l.take k) (ya, yb) with
           | true =>
            rw [hq3] at HC3
            have HO := hidM (HST.out hq1 hq2 hq3)
            clear hq1 hq2 hq3 HST HBAD
            go_wp2_with fail
            rw [HA.out]
            go_region_held3 (fun W => W.cell? ⟨w0.heap.size, 0, none⟩ = some (.int .i64 ya) ∧ W.cell? ⟨w0.heap.size, 1, none⟩ = some (.string yb) ∧ W.cell? ⟨w0.heap.size, 2, none⟩ = some (.int .i64 yn) ∧ W.cell? ⟨w0.heap.size, 3, none⟩ = some (.slice s1 yl.length p1) ∧ Below Wa.heap.size Wa W)
              (first | exact HR.out _ (Below.refl _ _).drew | exact HR.out _ (nxt (Below.refl Wa.heap.size Wa).drew hb1) | exact HR.out _ (nxt (nxt (Below.refl Wa.heap.size Wa).drew hb1) hb2) | exact HR.out _ (nxt (nxt (nxt (Below.refl Wa.heap.size Wa).drew hb1) hb2) hb3))
              (first
                | (go_at_call 76; refine (HC1.out _).mono ?_; rintro e W1 ⟨rfl, hb1⟩)
                | (go_at_call 75; refine (HC2.out _ (‹_ ∧ _ ∧ _ ∧ _ ∧ Below Wa.heap.size Wa _›).2.2.2.2).mono ?_; rintro e W2 ⟨rfl, hb2⟩)
                | (go_at_call 83; refine (HC3.out _ (‹_ ∧ _ ∧ _ ∧ _ ∧ Below Wa.heap.size Wa _›).2.2.2.2).mono ?_; rintro e W3 ⟨rfl, hb3⟩))
            go_wp2
            go_roundw
            case rel => exact ⟨k + 1, by omega, by go_num, HO.out, nxt HBW.out (nxt (nxt (nxt (Below.refl Wa.heap.size Wa).drew hb1) hb2) hb3)⟩
            case measure => simp [intOf]; omega
           | false =>
            rw [hq3] at HC3
            have HO := hidM (HBAD.out (fun h => by rw [hq3] at h; exact absurd h.2.2 (by decide)))
            clear hq1 hq2 hq3 HST HBAD
            go_wp2_with fail
            rw [HA.out]
            go_region_held3 (fun W => W.cell? ⟨w0.heap.size, 0, none⟩ = some (.int .i64 ya) ∧ W.cell? ⟨w0.heap.size, 1, none⟩ = some (.string yb) ∧ W.cell? ⟨w0.heap.size, 2, none⟩ = some (.int .i64 yn) ∧ W.cell? ⟨w0.heap.size, 3, none⟩ = some (.slice s1 yl.length p1) ∧ Below Wa.heap.size Wa W)
              (first | exact HR.out _ (Below.refl _ _).drew | exact HR.out _ (nxt (Below.refl Wa.heap.size Wa).drew hb1) | exact HR.out _ (nxt (nxt (Below.refl Wa.heap.size Wa).drew hb1) hb2) | exact HR.out _ (nxt (nxt (nxt (Below.refl Wa.heap.size Wa).drew hb1) hb2) hb3))
              (first
                | (go_at_call 76; refine (HC1.out _).mono ?_; rintro e W1 ⟨rfl, hb1⟩)
                | (go_at_call 75; refine (HC2.out _ (‹_ ∧ _ ∧ _ ∧ _ ∧ Below Wa.heap.size Wa _›).2.2.2.2).mono ?_; rintro e W2 ⟨rfl, hb2⟩)
                | (go_at_call 83; refine (HC3.out _ (‹_ ∧ _ ∧ _ ∧ _ ∧ Below Wa.heap.size Wa _›).2.2.2.2).mono ?_; rintro e W3 ⟨rfl, hb3⟩))
            go_wp2
            go_ret
            exact ⟨by rw [HO.out]; rfl, nxt HBW.out (nxt (nxt (nxt (Below.refl Wa.heap.size Wa).drew hb1) hb2) hb3)⟩
          | false =>
            rw [hq2, show errC false = 1 from rfl] at HC2
            have HO := hidM (HBAD.out (fun h => by rw [hq2] at h; exact absurd h.2.1 (by decide)))
            clear hq1 hq2 HST HBAD
            obtain ⟨q0, q1, q2, q3, -⟩ := HR.out Wa (Below.refl _ _)
            go_wp2_with fail
            rw [HA.out]
            refine wp_region_any (by kernel_rfl) ?_
            change wpAny _ _ _ _ _ _ _ (World.drew _)
            refine wpAny_take (i := 0) (oi := { dst := some 20, op := Go.Op.fieldAddr 82 (Go.Operand.tmp 8) 0, type := 0, pos := "row.go:20", after := #[], guard := none }) (v := ?v0y1) rfl (by kernel_rfl) (by kernel_rfl) (by kernel_rfl) (fun _ _ _ h => h) (Or.inl ⟨by rfl, ?h0y1⟩) ?r0y1
            case h0y1 => (intro W; go_simp; try with_reducible rfl)
            simp only [Act.put, List.setIfInBounds_toArray, List.set_cons_zero, List.set_cons_succ]
            refine wpAny_ready (rs := [1]) (by kernel_rfl) (by simp) ?_
            refine AllReady.cons (o := { dst := some 21, op := Go.Op.load 66 (Go.Operand.tmp 20), type := 66, pos := "row.go:20", after := #[{ on := 0, ground := Go.Ground.data }], guard := none }) rfl (fun K hK => ?_) AllReady.nil
            go_simp
            refine hK _ _ ?_
            clear hK K
            try simp only [Act.put, List.setIfInBounds_toArray, List.set_cons_zero, List.set_cons_succ]
            refine wpAny_ready (rs := [2]) (by kernel_rfl) (by simp) ?_
            refine AllReady.cons (o := { dst := some 22, op := Go.Op.call { callee := Go.Callee.value (Go.Operand.func 76), args := #[Go.Operand.tmp 21], argTypes := #[66] }, type := 27, pos := "row.go:20", after := #[{ on := 1, ground := Go.Ground.data }], guard := none }) rfl (fun K hK => ?_) AllReady.nil
            go_simp
            refine (HC1.out _).mono ?_
            rintro e W1 ⟨rfl, hb1⟩
            obtain ⟨r0, r1, r2, r3, -⟩ := HR.out _ (nxt (Below.refl Wa.heap.size Wa).drew hb1)
            refine hK _ _ ?_
            clear hK K
            try simp only [Act.put, List.setIfInBounds_toArray, List.set_cons_zero, List.set_cons_succ]
            refine wpAny_take (i := 3) (oi := { dst := some 23, op := Go.Op.binOp Go.BinOp.neq 27 (Go.Operand.tmp 22) (Go.Operand.const (Go.Value.int Go.IntKind.i64 0)) 27, type := 4, pos := "row.go:20", after := #[{ on := 2, ground := Go.Ground.data }], guard := none }) (v := ?v3y2) rfl (by kernel_rfl) (by kernel_rfl) (by kernel_rfl) (fun _ _ _ h => h) (Or.inl ⟨by rfl, ?h3y2⟩) ?r3y2
            case h3y2 => (intro W; go_simp; try with_reducible rfl)
            simp only [Act.put, List.setIfInBounds_toArray, List.set_cons_zero, List.set_cons_succ]
            refine wpAny_take (i := 4) (oi := { dst := some 24, op := Go.Op.move (Go.Operand.tmp 23), type := 4, pos := "row.go:20", after := #[{ on := 3, ground := Go.Ground.data }, { on := 2, ground := Go.Ground.chain }], guard := none }) (v := ?v4y3) rfl (by kernel_rfl) (by kernel_rfl) (by kernel_rfl) (fun _ _ _ h => h) (Or.inl ⟨by rfl, ?h4y3⟩) ?r4y3
            case h4y3 => (intro W; go_simp; try with_reducible rfl)
            simp only [Act.put, List.setIfInBounds_toArray, List.set_cons_zero, List.set_cons_succ]
            refine wpAny_take (i := 5) (oi := { dst := some 25, op := Go.Op.move (Go.Operand.tmp 0), type := 3, pos := "row.go:20", after := #[{ on := 4, ground := Go.Ground.guard }], guard := some (4, false) }) (v := ?v5y4) rfl (by kernel_rfl) (by kernel_rfl) (by kernel_rfl) (fun _ _ _ h => h) (Or.inl ⟨by rfl, ?h5y4⟩) ?r5y4
            case h5y4 => (intro W; go_simp; try with_reducible rfl)
            simp only [Act.put, List.setIfInBounds_toArray, List.set_cons_zero, List.set_cons_succ]
            refine wpAny_take (i := 6) (oi := { dst := some 26, op := Go.Op.move (Go.Operand.tmp 1), type := 3, pos := "row.go:20", after := #[{ on := 4, ground := Go.Ground.guard }], guard := some (4, false) }) (v := ?v6y5) rfl (by kernel_rfl) (by kernel_rfl) (by kernel_rfl) (fun _ _ _ h => h) (Or.inl ⟨by rfl, ?h6y5⟩) ?r6y5
            case h6y5 => (intro W; go_simp; try with_reducible rfl)
            simp only [Act.put, List.setIfInBounds_toArray, List.set_cons_zero, List.set_cons_succ]
            refine wpAny_take (i := 7) (oi := { dst := some 27, op := Go.Op.fieldAddr 82 (Go.Operand.tmp 8) 1, type := 0, pos := "row.go:20", after := #[{ on := 4, ground := Go.Ground.guard }], guard := some (4, false) }) (v := ?v7y6) rfl (by kernel_rfl) (by kernel_rfl) (by kernel_rfl) (fun _ _ _ h => h) (Or.inl ⟨by rfl, ?h7y6⟩) ?r7y6
            case h7y6 => (intro W; go_simp; try with_reducible rfl)
            simp only [Act.put, List.setIfInBounds_toArray, List.set_cons_zero, List.set_cons_succ]
            refine wpAny_ready (rs := [8]) (by kernel_rfl) (by simp) ?_
            refine AllReady.cons (o := { dst := some 28, op := Go.Op.load 80 (Go.Operand.tmp 27), type := 80, pos := "row.go:20", after := #[{ on := 7, ground := Go.Ground.data }, { on := 4, ground := Go.Ground.guard }], guard := some (4, false) }) rfl (fun K hK => ?_) AllReady.nil
            go_simp
            refine hK _ _ ?_
            clear hK K
            try simp only [Act.put, List.setIfInBounds_toArray, List.set_cons_zero, List.set_cons_succ]
            refine wpAny_ready (rs := [9]) (by kernel_rfl) (by simp) ?_
            refine AllReady.cons (o := { dst := some 29, op := Go.Op.call { callee := Go.Callee.value (Go.Operand.func 75), args := #[Go.Operand.tmp 25, Go.Operand.tmp 26, Go.Operand.tmp 28], argTypes := #[3, 3, 80] }, type := 27, pos := "row.go:20", after := #[{ on := 5, ground := Go.Ground.data }, { on := 6, ground := Go.Ground.data }, { on := 8, ground := Go.Ground.data }, { on := 4, ground := Go.Ground.chain }, { on := 4, ground := Go.Ground.guard }], guard := some (4, false) }) rfl (fun K hK => ?_) AllReady.nil
            go_simp
            refine (HC2.out _ (nxt (Below.refl Wa.heap.size Wa).drew hb1)).mono ?_
            rintro e W2 ⟨rfl, hb2⟩
            refine hK _ _ ?_
            clear hK K
            try simp only [Act.put, List.setIfInBounds_toArray, List.set_cons_zero, List.set_cons_succ]
            refine wpAny_take (i := 10) (oi := { dst := some 30, op := Go.Op.binOp Go.BinOp.neq 27 (Go.Operand.tmp 29) (Go.Operand.const (Go.Value.int Go.IntKind.i64 0)) 27, type := 4, pos := "row.go:20", after := #[{ on := 9, ground := Go.Ground.data }, { on := 4, ground := Go.Ground.guard }], guard := some (4, false) }) (v := ?v10y7) rfl (by kernel_rfl) (by kernel_rfl) (by kernel_rfl) (fun _ _ _ h => h) (Or.inl ⟨by rfl, ?h10y7⟩) ?r10y7
            case h10y7 => (intro W; go_simp; try with_reducible rfl)
            simp only [Act.put, List.setIfInBounds_toArray, List.set_cons_zero, List.set_cons_succ]
            refine wpAny_take (i := 11) (oi := { dst := some 31, op := Go.Op.pick (Go.Operand.tmp 24) (Go.Operand.const (Go.Value.bool true)) (Go.Operand.tmp 30), type := 4, pos := "row.go:20", after := #[{ on := 4, ground := Go.Ground.data }, { on := 10, ground := Go.Ground.data }], guard := none }) (v := ?v11y8) rfl (by kernel_rfl) (by kernel_rfl) (by kernel_rfl) (fun _ _ _ h => h) (Or.inl ⟨by rfl, ?h11y8⟩) ?r11y8
            case h11y8 => (intro W; go_simp; try with_reducible rfl)
            simp only [Act.put, List.setIfInBounds_toArray, List.set_cons_zero, List.set_cons_succ]
            refine wpAny_take (i := 12) (oi := { dst := some 32, op := Go.Op.move (Go.Operand.tmp 31), type := 4, pos := "row.go:20", after := #[{ on := 11, ground := Go.Ground.data }, { on := 9, ground := Go.Ground.chain }], guard := none }) (v := ?v12y9) rfl (by kernel_rfl) (by kernel_rfl) (by kernel_rfl) (fun _ _ _ h => h) (Or.inl ⟨by rfl, ?h12y9⟩) ?r12y9
            case h12y9 => (intro W; go_simp; try with_reducible rfl)
            simp only [Act.put, List.setIfInBounds_toArray, List.set_cons_zero, List.set_cons_succ]
            refine wpAny_take (i := 13) (oi := { dst := some 33, op := Go.Op.move (Go.Operand.tmp 2), type := 37, pos := "row.go:20", after := #[{ on := 12, ground := Go.Ground.guard }], guard := some (12, false) }) (v := undef) rfl (by kernel_rfl) (by kernel_rfl) (by kernel_rfl) (fun _ _ _ h => h) (Or.inr ⟨by rfl, rfl⟩) ?_
            simp only [Act.put, List.setIfInBounds_toArray, List.set_cons_zero, List.set_cons_succ]
            refine wpAny_take (i := 14) (oi := { dst := some 34, op := Go.Op.move (Go.Operand.tmp 7), type := 3, pos := "row.go:20", after := #[{ on := 12, ground := Go.Ground.guard }], guard := some (12, false) }) (v := undef) rfl (by kernel_rfl) (by kernel_rfl) (by kernel_rfl) (fun _ _ _ h => h) (Or.inr ⟨by rfl, rfl⟩) ?_
            simp only [Act.put, List.setIfInBounds_toArray, List.set_cons_zero, List.set_cons_succ]
            refine wpAny_take (i := 15) (oi := { dst := some 35, op := Go.Op.slice 37 (Go.Operand.tmp 33) none (some (Go.Operand.tmp 34)) none, type := 37, pos := "row.go:20", after := #[{ on := 13, ground := Go.Ground.data }, { on := 14, ground := Go.Ground.data }, { on := 12, ground := Go.Ground.guard }], guard := some (12, false) }) (v := undef) rfl (by kernel_rfl) (by kernel_rfl) (by kernel_rfl) (fun _ _ _ h => h) (Or.inr ⟨by rfl, rfl⟩) ?_
            simp only [Act.put, List.setIfInBounds_toArray, List.set_cons_zero, List.set_cons_succ]
            refine wpAny_take (i := 16) (oi := { dst := some 36, op := Go.Op.fieldAddr 82 (Go.Operand.tmp 8) 0, type := 0, pos := "row.go:20", after := #[{ on := 12, ground := Go.Ground.guard }], guard := some (12, false) }) (v := undef) rfl (by kernel_rfl) (by kernel_rfl) (by kernel_rfl) (fun _ _ _ h => h) (Or.inr ⟨by rfl, rfl⟩) ?_
            simp only [Act.put, List.setIfInBounds_toArray, List.set_cons_zero, List.set_cons_succ]
            refine wpAny_take (i := 17) (oi := { dst := some 37, op := Go.Op.load 66 (Go.Operand.tmp 36), type := 66, pos := "row.go:20", after := #[{ on := 16, ground := Go.Ground.data }, { on := 12, ground := Go.Ground.guard }], guard := some (12, false) }) (v := undef) rfl (by kernel_rfl) (by kernel_rfl) (by kernel_rfl) (fun _ _ _ h => h) (Or.inr ⟨by rfl, rfl⟩) ?_
            simp only [Act.put, List.setIfInBounds_toArray, List.set_cons_zero, List.set_cons_succ]
            refine wpAny_take (i := 18) (oi := { dst := some 38, op := Go.Op.call { callee := Go.Callee.value (Go.Operand.func 83), args := #[Go.Operand.tmp 35, Go.Operand.tmp 37], argTypes := #[37, 66] }, type := 4, pos := "row.go:20", after := #[{ on := 15, ground := Go.Ground.data }, { on := 17, ground := Go.Ground.data }, { on := 12, ground := Go.Ground.chain }, { on := 12, ground := Go.Ground.guard }], guard := some (12, false) }) (v := undef) rfl (by kernel_rfl) (by kernel_rfl) (by kernel_rfl) (fun _ _ _ h => h) (Or.inr ⟨by rfl, rfl⟩) ?_
            simp only [Act.put, List.setIfInBounds_toArray, List.set_cons_zero, List.set_cons_succ]
            refine wpAny_take (i := 19) (oi := { dst := some 39, op := Go.Op.unOp Go.UnOp.not 4 (Go.Operand.tmp 38), type := 4, pos := "row.go:20", after := #[{ on := 18, ground := Go.Ground.data }, { on := 12, ground := Go.Ground.guard }], guard := some (12, false) }) (v := undef) rfl (by kernel_rfl) (by kernel_rfl) (by kernel_rfl) (fun _ _ _ h => h) (Or.inr ⟨by rfl, rfl⟩) ?_
            simp only [Act.put, List.setIfInBounds_toArray, List.set_cons_zero, List.set_cons_succ]
            refine wpAny_take (i := 20) (oi := { dst := some 40, op := Go.Op.pick (Go.Operand.tmp 32) (Go.Operand.const (Go.Value.bool true)) (Go.Operand.tmp 39), type := 4, pos := "row.go:20", after := #[{ on := 12, ground := Go.Ground.data }, { on := 19, ground := Go.Ground.data }], guard := none }) (v := ?v20y10) rfl (by kernel_rfl) (by kernel_rfl) (by kernel_rfl) (fun _ _ _ h => h) (Or.inl ⟨by rfl, ?h20y10⟩) ?r20y10
            case h20y10 => (intro W; go_simp; try with_reducible rfl)
            simp only [Act.put, List.setIfInBounds_toArray, List.set_cons_zero, List.set_cons_succ]
            refine wpAny_done (by kernel_rfl) ?_ _
            go_wp2
            go_ret
            exact ⟨by rw [HO.out]; rfl, nxt HBW.out (nxt (nxt (Below.refl Wa.heap.size Wa).drew hb1) hb2)⟩
        · rw [if_neg (show ¬ (ya, yb).2.size ≤ 64 from hq1)] at HC1
          have HO := hidM (HBAD.out (fun h => hq1 h.1))
          clear hq1 HST HBAD
          obtain ⟨q0, q1, q2, q3, -⟩ := HR.out Wa (Below.refl _ _)
          go_wp2_with fail
          rw [HA.out]
          refine wp_region_any (by kernel_rfl) ?_
          change wpAny _ _ _ _ _ _ _ (World.drew _)
          refine wpAny_take (i := 0) (oi := { dst := some 20, op := Go.Op.fieldAddr 82 (Go.Operand.tmp 8) 0, type := 0, pos := "row.go:20", after := #[], guard := none }) (v := ?v0y11) rfl (by kernel_rfl) (by kernel_rfl) (by kernel_rfl) (fun _ _ _ h => h) (Or.inl ⟨by rfl, ?h0y11⟩) ?r0y11
          case h0y11 => (intro W; go_simp; try with_reducible rfl)
          simp only [Act.put, List.setIfInBounds_toArray, List.set_cons_zero, List.set_cons_succ]
          refine wpAny_ready (rs := [1]) (by kernel_rfl) (by simp) ?_
          refine AllReady.cons (o := { dst := some 21, op := Go.Op.load 66 (Go.Operand.tmp 20), type := 66, pos := "row.go:20", after := #[{ on := 0, ground := Go.Ground.data }], guard := none }) rfl (fun K hK => ?_) AllReady.nil
          go_simp
          refine hK _ _ ?_
          clear hK K
          try simp only [Act.put, List.setIfInBounds_toArray, List.set_cons_zero, List.set_cons_succ]
          refine wpAny_ready (rs := [2]) (by kernel_rfl) (by simp) ?_
          refine AllReady.cons (o := { dst := some 22, op := Go.Op.call { callee := Go.Callee.value (Go.Operand.func 76), args := #[Go.Operand.tmp 21], argTypes := #[66] }, type := 27, pos := "row.go:20", after := #[{ on := 1, ground := Go.Ground.data }], guard := none }) rfl (fun K hK => ?_) AllReady.nil
          go_simp
          refine (HC1.out _).mono ?_
          rintro e W1 ⟨rfl, hb1⟩
          obtain ⟨r0, r1, r2, r3, -⟩ := HR.out _ (nxt (Below.refl Wa.heap.size Wa).drew hb1)
          refine hK _ _ ?_
          clear hK K
          try simp only [Act.put, List.setIfInBounds_toArray, List.set_cons_zero, List.set_cons_succ]
          refine wpAny_take (i := 3) (oi := { dst := some 23, op := Go.Op.binOp Go.BinOp.neq 27 (Go.Operand.tmp 22) (Go.Operand.const (Go.Value.int Go.IntKind.i64 0)) 27, type := 4, pos := "row.go:20", after := #[{ on := 2, ground := Go.Ground.data }], guard := none }) (v := ?v3y12) rfl (by kernel_rfl) (by kernel_rfl) (by kernel_rfl) (fun _ _ _ h => h) (Or.inl ⟨by rfl, ?h3y12⟩) ?r3y12
          case h3y12 => (intro W; go_simp; try with_reducible rfl)
          simp only [Act.put, List.setIfInBounds_toArray, List.set_cons_zero, List.set_cons_succ]
          refine wpAny_take (i := 4) (oi := { dst := some 24, op := Go.Op.move (Go.Operand.tmp 23), type := 4, pos := "row.go:20", after := #[{ on := 3, ground := Go.Ground.data }, { on := 2, ground := Go.Ground.chain }], guard := none }) (v := ?v4y13) rfl (by kernel_rfl) (by kernel_rfl) (by kernel_rfl) (fun _ _ _ h => h) (Or.inl ⟨by rfl, ?h4y13⟩) ?r4y13
          case h4y13 => (intro W; go_simp; try with_reducible rfl)
          simp only [Act.put, List.setIfInBounds_toArray, List.set_cons_zero, List.set_cons_succ]
          refine wpAny_take (i := 5) (oi := { dst := some 25, op := Go.Op.move (Go.Operand.tmp 0), type := 3, pos := "row.go:20", after := #[{ on := 4, ground := Go.Ground.guard }], guard := some (4, false) }) (v := undef) rfl (by kernel_rfl) (by kernel_rfl) (by kernel_rfl) (fun _ _ _ h => h) (Or.inr ⟨by rfl, rfl⟩) ?_
          simp only [Act.put, List.setIfInBounds_toArray, List.set_cons_zero, List.set_cons_succ]
          refine wpAny_take (i := 6) (oi := { dst := some 26, op := Go.Op.move (Go.Operand.tmp 1), type := 3, pos := "row.go:20", after := #[{ on := 4, ground := Go.Ground.guard }], guard := some (4, false) }) (v := undef) rfl (by kernel_rfl) (by kernel_rfl) (by kernel_rfl) (fun _ _ _ h => h) (Or.inr ⟨by rfl, rfl⟩) ?_
          simp only [Act.put, List.setIfInBounds_toArray, List.set_cons_zero, List.set_cons_succ]
          refine wpAny_take (i := 7) (oi := { dst := some 27, op := Go.Op.fieldAddr 82 (Go.Operand.tmp 8) 1, type := 0, pos := "row.go:20", after := #[{ on := 4, ground := Go.Ground.guard }], guard := some (4, false) }) (v := undef) rfl (by kernel_rfl) (by kernel_rfl) (by kernel_rfl) (fun _ _ _ h => h) (Or.inr ⟨by rfl, rfl⟩) ?_
          simp only [Act.put, List.setIfInBounds_toArray, List.set_cons_zero, List.set_cons_succ]
          refine wpAny_take (i := 8) (oi := { dst := some 28, op := Go.Op.load 80 (Go.Operand.tmp 27), type := 80, pos := "row.go:20", after := #[{ on := 7, ground := Go.Ground.data }, { on := 4, ground := Go.Ground.guard }], guard := some (4, false) }) (v := undef) rfl (by kernel_rfl) (by kernel_rfl) (by kernel_rfl) (fun _ _ _ h => h) (Or.inr ⟨by rfl, rfl⟩) ?_
          simp only [Act.put, List.setIfInBounds_toArray, List.set_cons_zero, List.set_cons_succ]
          refine wpAny_take (i := 9) (oi := { dst := some 29, op := Go.Op.call { callee := Go.Callee.value (Go.Operand.func 75), args := #[Go.Operand.tmp 25, Go.Operand.tmp 26, Go.Operand.tmp 28], argTypes := #[3, 3, 80] }, type := 27, pos := "row.go:20", after := #[{ on := 5, ground := Go.Ground.data }, { on := 6, ground := Go.Ground.data }, { on := 8, ground := Go.Ground.data }, { on := 4, ground := Go.Ground.chain }, { on := 4, ground := Go.Ground.guard }], guard := some (4, false) }) (v := undef) rfl (by kernel_rfl) (by kernel_rfl) (by kernel_rfl) (fun _ _ _ h => h) (Or.inr ⟨by rfl, rfl⟩) ?_
          simp only [Act.put, List.setIfInBounds_toArray, List.set_cons_zero, List.set_cons_succ]
          refine wpAny_take (i := 10) (oi := { dst := some 30, op := Go.Op.binOp Go.BinOp.neq 27 (Go.Operand.tmp 29) (Go.Operand.const (Go.Value.int Go.IntKind.i64 0)) 27, type := 4, pos := "row.go:20", after := #[{ on := 9, ground := Go.Ground.data }, { on := 4, ground := Go.Ground.guard }], guard := some (4, false) }) (v := undef) rfl (by kernel_rfl) (by kernel_rfl) (by kernel_rfl) (fun _ _ _ h => h) (Or.inr ⟨by rfl, rfl⟩) ?_
          simp only [Act.put, List.setIfInBounds_toArray, List.set_cons_zero, List.set_cons_succ]
          refine wpAny_take (i := 11) (oi := { dst := some 31, op := Go.Op.pick (Go.Operand.tmp 24) (Go.Operand.const (Go.Value.bool true)) (Go.Operand.tmp 30), type := 4, pos := "row.go:20", after := #[{ on := 4, ground := Go.Ground.data }, { on := 10, ground := Go.Ground.data }], guard := none }) (v := ?v11y14) rfl (by kernel_rfl) (by kernel_rfl) (by kernel_rfl) (fun _ _ _ h => h) (Or.inl ⟨by rfl, ?h11y14⟩) ?r11y14
          case h11y14 => (intro W; go_simp; try with_reducible rfl)
          simp only [Act.put, List.setIfInBounds_toArray, List.set_cons_zero, List.set_cons_succ]
          refine wpAny_take (i := 12) (oi := { dst := some 32, op := Go.Op.move (Go.Operand.tmp 31), type := 4, pos := "row.go:20", after := #[{ on := 11, ground := Go.Ground.data }, { on := 9, ground := Go.Ground.chain }], guard := none }) (v := ?v12y15) rfl (by kernel_rfl) (by kernel_rfl) (by kernel_rfl) (fun _ _ _ h => h) (Or.inl ⟨by rfl, ?h12y15⟩) ?r12y15
          case h12y15 => (intro W; go_simp; try with_reducible rfl)
          simp only [Act.put, List.setIfInBounds_toArray, List.set_cons_zero, List.set_cons_succ]
          refine wpAny_take (i := 13) (oi := { dst := some 33, op := Go.Op.move (Go.Operand.tmp 2), type := 37, pos := "row.go:20", after := #[{ on := 12, ground := Go.Ground.guard }], guard := some (12, false) }) (v := undef) rfl (by kernel_rfl) (by kernel_rfl) (by kernel_rfl) (fun _ _ _ h => h) (Or.inr ⟨by rfl, rfl⟩) ?_
          simp only [Act.put, List.setIfInBounds_toArray, List.set_cons_zero, List.set_cons_succ]
          refine wpAny_take (i := 14) (oi := { dst := some 34, op := Go.Op.move (Go.Operand.tmp 7), type := 3, pos := "row.go:20", after := #[{ on := 12, ground := Go.Ground.guard }], guard := some (12, false) }) (v := undef) rfl (by kernel_rfl) (by kernel_rfl) (by kernel_rfl) (fun _ _ _ h => h) (Or.inr ⟨by rfl, rfl⟩) ?_
          simp only [Act.put, List.setIfInBounds_toArray, List.set_cons_zero, List.set_cons_succ]
          refine wpAny_take (i := 15) (oi := { dst := some 35, op := Go.Op.slice 37 (Go.Operand.tmp 33) none (some (Go.Operand.tmp 34)) none, type := 37, pos := "row.go:20", after := #[{ on := 13, ground := Go.Ground.data }, { on := 14, ground := Go.Ground.data }, { on := 12, ground := Go.Ground.guard }], guard := some (12, false) }) (v := undef) rfl (by kernel_rfl) (by kernel_rfl) (by kernel_rfl) (fun _ _ _ h => h) (Or.inr ⟨by rfl, rfl⟩) ?_
          simp only [Act.put, List.setIfInBounds_toArray, List.set_cons_zero, List.set_cons_succ]
          refine wpAny_take (i := 16) (oi := { dst := some 36, op := Go.Op.fieldAddr 82 (Go.Operand.tmp 8) 0, type := 0, pos := "row.go:20", after := #[{ on := 12, ground := Go.Ground.guard }], guard := some (12, false) }) (v := undef) rfl (by kernel_rfl) (by kernel_rfl) (by kernel_rfl) (fun _ _ _ h => h) (Or.inr ⟨by rfl, rfl⟩) ?_
          simp only [Act.put, List.setIfInBounds_toArray, List.set_cons_zero, List.set_cons_succ]
          refine wpAny_take (i := 17) (oi := { dst := some 37, op := Go.Op.load 66 (Go.Operand.tmp 36), type := 66, pos := "row.go:20", after := #[{ on := 16, ground := Go.Ground.data }, { on := 12, ground := Go.Ground.guard }], guard := some (12, false) }) (v := undef) rfl (by kernel_rfl) (by kernel_rfl) (by kernel_rfl) (fun _ _ _ h => h) (Or.inr ⟨by rfl, rfl⟩) ?_
          simp only [Act.put, List.setIfInBounds_toArray, List.set_cons_zero, List.set_cons_succ]
          refine wpAny_take (i := 18) (oi := { dst := some 38, op := Go.Op.call { callee := Go.Callee.value (Go.Operand.func 83), args := #[Go.Operand.tmp 35, Go.Operand.tmp 37], argTypes := #[37, 66] }, type := 4, pos := "row.go:20", after := #[{ on := 15, ground := Go.Ground.data }, { on := 17, ground := Go.Ground.data }, { on := 12, ground := Go.Ground.chain }, { on := 12, ground := Go.Ground.guard }], guard := some (12, false) }) (v := undef) rfl (by kernel_rfl) (by kernel_rfl) (by kernel_rfl) (fun _ _ _ h => h) (Or.inr ⟨by rfl, rfl⟩) ?_
          simp only [Act.put, List.setIfInBounds_toArray, List.set_cons_zero, List.set_cons_succ]
          refine wpAny_take (i := 19) (oi := { dst := some 39, op := Go.Op.unOp Go.UnOp.not 4 (Go.Operand.tmp 38), type := 4, pos := "row.go:20", after := #[{ on := 18, ground := Go.Ground.data }, { on := 12, ground := Go.Ground.guard }], guard := some (12, false) }) (v := undef) rfl (by kernel_rfl) (by kernel_rfl) (by kernel_rfl) (fun _ _ _ h => h) (Or.inr ⟨by rfl, rfl⟩) ?_
          simp only [Act.put, List.setIfInBounds_toArray, List.set_cons_zero, List.set_cons_succ]
          refine wpAny_take (i := 20) (oi := { dst := some 40, op := Go.Op.pick (Go.Operand.tmp 32) (Go.Operand.const (Go.Value.bool true)) (Go.Operand.tmp 39), type := 4, pos := "row.go:20", after := #[{ on := 12, ground := Go.Ground.data }, { on := 19, ground := Go.Ground.data }], guard := none }) (v := ?v20y16) rfl (by kernel_rfl) (by kernel_rfl) (by kernel_rfl) (fun _ _ _ h => h) (Or.inl ⟨by rfl, ?h20y16⟩) ?r20y16
          case h20y16 => (intro W; go_simp; try with_reducible rfl)
          simp only [Act.put, List.setIfInBounds_toArray, List.set_cons_zero, List.set_cons_succ]
          refine wpAny_done (by kernel_rfl) ?_ _
          go_wp2
          go_ret
          exact ⟨by rw [HO.out]; rfl, nxt HBW.out (nxt (Below.refl Wa.heap.size Wa).drew hb1)⟩
      · have hlt' : l.length ≤ k := by omega
        have HF := hidM (hok.fin hw hlt')
        go_wp2
        go_ret
        exact ⟨by rw [HF.out]; rfl, hbel⟩
end Go.Proofs.YtaagllbcmgnbnaaGreatDoor
/- row.Join of whatever runs. -/
namespace Go.Proofs.YtaagllbcmgnbnaaGreatDoor
open Go.RowKit Go.Maps
set_option linter.unusedVariables false
set_option maxRecDepth 100000
end Go.Proofs.YtaagllbcmgnbnaaGreatDoor
