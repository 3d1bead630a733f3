/- The law SplitFinds: a configuration that may be. -/
import Derived.Test.YtdejdcibcihfeaaB37
import Derived.Test.YtdejdcibcihfeaaB38
import Derived.Deep.RegionHeld3
namespace Go.Proofs.Ytdejdcibcihfeaa
open Go.RowKit
set_option linter.unusedVariables false
set_option maxRecDepth 100000

theorem PS.atS {W : World} {a : Option Addr} {n cap k : Nat} {l : List Sp} {s : Sp} (h : PS W (.slice a n cap) l) (hk : l[k]? = some s) : ∃ b off, a = some ⟨b, off, none⟩ ∧ b < W.heap.size ∧ SpAt W b (off + k * 3) s := by
  obtain ⟨a', cap', e, h⟩ := h
  have ea : a = a' := by injection e
  subst ea
  rcases h with rfl | ⟨b, off, rfl, hb, hat⟩
  · simp at hk
  · exact ⟨b, off, rfl, hb, hat k s hk⟩
set_option maxHeartbeats 8000000 in
theorem lawsf_ok (c : Cfg) (vp vl : Value) (l : List Int) (w : World) (h : In12 w c vp vl l) (hok : cfgB c = true) :
    Calls Try.prog 3 #[askV12 c vp vl] w fun e w' => e = .returned (.bool true) ∧ Below w.heap.size w w' := by
  obtain ⟨W0, hW0⟩ : ∃ W0 : World, W0 = w.alloc (askO12 c vp vl) := ⟨_, rfl⟩
  have hb0 : Below w.heap.size w W0 := by rw [hW0]; exact (Below.refl _ _).alloc (Nat.le_refl _) _
  have B0 : BlkK W0 w.heap.size c vp vl := by rw [hW0]; exact BlkK.new w _ _ _
  have h0 := h.below hb0
  have H1 := hidM (heavy12_any c vp vl l W0 h0)
  have HIN := hidM (show ∀ W, Below W0.heap.size W0 W → InC W c vp from fun W hW => h0.cfg.below hW)
  have HLN := hidM (show ∀ W, Below W0.heap.size W0 W → NS W vl l from fun W hW => h0.ns.below hW)
  obtain ⟨va, vc, rfl, hvc, hvc2⟩ := h.cap
  obtain ⟨ia, ic, rfl, hic, hic2⟩ := h.lcap
  have hll := h.len
  have HF := hidM (show ∀ W, Below W0.heap.size W0 W → W.cell? ⟨w.heap.size, 0, none⟩ = some (.int .i64 c.sites) ∧ W.cell? ⟨w.heap.size, 1, none⟩ = some (.slice va c.splits.length vc) ∧ W.cell? ⟨w.heap.size, 2, none⟩ = some (.int .i64 c.again) ∧ W.cell? ⟨w.heap.size, 3, none⟩ = some (.int .i64 c.over) ∧ W.cell? ⟨w.heap.size, 4, none⟩ = some (.slice ia l.length ic) from fun W hW => (B0.below hW).cells)
  have HC := hidM (fun W (hW : Below W0.heap.size W0 W) => rconfig_any c _ W (HIN.out W hW))
  have HCK := hidM (fun W (hW : Below W0.heap.size W0 W) => check12_any c _ W (HIN.out W hW))
  have HN := hidM num12_any
  have HK := hidM wakes12_any
  have HWF := hidM h.cfg.wf
  have HW := hidM hW0.symm
  have HB := hidM hb0
  clear hW0 hb0 B0 h h0
  go_enter Try.func3, Try.ntmps3
  go_wp2_with fail
  rw [HW.out]
  refine H1.out.mono ?_
  rintro e W1 ⟨⟨hv, rfl⟩, hb1⟩
  obtain ⟨b0, b1, b2, b3, b4⟩ := HF.out W1 hb1
  have HC1 := hidM (HC.out W1 hb1)
  cases hv with
  | true =>
    go_wp2
    go_ret
    exact ⟨rfl, nxt HB.out hb1⟩
  | false =>
  unfold checkRes at HCK
  rw [hok] at HC1 HCK
  go_wp2_with (first
    | (go_at_call 6; refine HC1.out.mono ?_; rintro e W2 ⟨rfl, hb2⟩; have hb12 := nxt hb1 hb2; obtain ⟨x0, x1, x2, x3, x4⟩ := HF.out W2 hb12; have HC2 := hidM (HCK.out W2 hb12))
    | (go_at_call 8; refine HC2.out.mono ?_; rintro e W3 ⟨rfl, hb3⟩)
    | (go_at_call 7; refine (HN.out _ _).mono ?_; rintro e W5 ⟨rfl, hw5⟩; subst W5))
  have HB3 := hidM (nxt hb12 hb3)
  have HOK := hidM hok
  clear b0 b1 b2 b3 b4 x0 x1 x2 x3 x4 hb1 hb2 hb3 hb12 HC1 HC2 HC H1 hok
  go_loopw [4] (fun i wr => ∃ k : Nat, i = .int .i64 k ∧ k ≤ l.length ∧ k ≤ 12 ∧ Below W0.heap.size W0 wr) (fun i _ => 12 - (intOf i).toNat)
  case atStart => exact ⟨0, rfl, by omega, by omega, HB3.out⟩
  case round =>
    clear HB3
    rename World => w1
    obtain ⟨i, rfl, hi, hi12, hbr⟩ := hrel
    have HBR := hidM hbr
    obtain ⟨r0, r1, r2, r3, r4⟩ := HF.out w1 hbr
    by_cases hil : i < l.length
    · by_cases hi6 : i < 12
      · have hii : (i : Int) < (l.length : Int) := by omega
        have hii6 : (i : Int) < 12 := by omega
        have hi0 : (0 : Int) ≤ (i : Int) := by omega
        obtain ⟨x, hy⟩ := getSome hil
        have HLX := hidM hy
        obtain ⟨a9, c9, e9, h9⟩ := HLN.out w1 hbr
        have e91 : ia = a9 := by injection e9
        clear e9
        subst e91
        rcases h9 with h9 | ⟨b, off, rfl, hb, hat⟩
        · rw [h9] at hil; simp at hil
        have hx0 := hat i x hy
        have HS := hidM (show ∀ W, Below w1.heap.size w1 W → W.cell? ⟨w.heap.size, 0, none⟩ = some (.int .i64 c.sites) ∧ W.cell? ⟨w.heap.size, 1, none⟩ = some (.slice va c.splits.length vc) ∧ W.cell? ⟨w.heap.size, 2, none⟩ = some (.int .i64 c.again) ∧ W.cell? ⟨w.heap.size, 3, none⟩ = some (.int .i64 c.over) ∧ W.cell? ⟨w.heap.size, 4, none⟩ = some (.slice (some ⟨b, off, none⟩) l.length ic) ∧ W.cell? ⟨b, off + i, none⟩ = some (.int .i64 x) ∧ Below w1.heap.size w1 W from fun W hW => by
          obtain ⟨p0, p1, p2, p3, p4⟩ := HF.out W (nxt HBR.out hW)
          exact ⟨p0, p1, p2, p3, p4, (hW.cell (p := ⟨b, _, none⟩) hb).trans hx0, hW⟩)
        have HNSL := hidM (show ∀ W, Below w1.heap.size w1 W → NS W (.slice (some ⟨b, off, none⟩) l.length ic) l from fun W hW => HLN.out W (nxt HBR.out hW))
        have HRF := hidM (fun (y : Int) W (hW : Below w1.heap.size w1 W) => rfind_any c _ y W (HIN.out W (nxt HBR.out hW)))
        have HFD := hidM (fun W (hW : Below w1.heap.size w1 W) => find12_any c _ x W (HIN.out W (nxt HBR.out hW)))
        clear hbr hy hb hat hx0 r0 r1 r2 r3 r4
        obtain ⟨r0, r1, r2, r3, r4, r5, -⟩ := HS.out w1 (Below.refl _ _)
        cases hf0 : findC c.splits x with
        | none =>
          have hf := hidM hf0
          have HRX := hidM (fun W (hW : Below w1.heap.size w1 W) => HRF.out x W hW)
          rw [placeC_none hf0] at HRX
          clear hf0
          as_aux_lemma =>
            go_wp2_with fail
            go_region_held3 (fun W => W.cell? ⟨w.heap.size, 0, none⟩ = some (.int .i64 c.sites) ∧ W.cell? ⟨w.heap.size, 1, none⟩ = some (.slice va c.splits.length vc) ∧ W.cell? ⟨w.heap.size, 2, none⟩ = some (.int .i64 c.again) ∧ W.cell? ⟨w.heap.size, 3, none⟩ = some (.int .i64 c.over) ∧ W.cell? ⟨w.heap.size, 4, none⟩ = some (.slice (some ⟨b, off, none⟩) l.length ic) ∧ W.cell? ⟨b, off + i, none⟩ = some (.int .i64 x) ∧ Below w1.heap.size w1 W)
              (first | exact HS.out _ (Below.refl _ _).drew | exact HS.out _ (nxt (Below.refl w1.heap.size w1).drew hb2))
              (first | (go_at_call 9; refine (HRX.out _ (Below.refl w1.heap.size w1).drew).mono ?_; rintro e W2 ⟨rfl, hb2⟩))
            have hb12 := nxt (Below.refl w1.heap.size w1).drew hb2
            obtain ⟨q0, q1, q2, q3, q4, q5, -⟩ := HS.out W2 hb12
            have HS2 := hidM (show ∀ W, Below W2.heap.size W2 W → W.cell? ⟨w.heap.size, 0, none⟩ = some (.int .i64 c.sites) ∧ W.cell? ⟨w.heap.size, 1, none⟩ = some (.slice va c.splits.length vc) ∧ W.cell? ⟨w.heap.size, 2, none⟩ = some (.int .i64 c.again) ∧ W.cell? ⟨w.heap.size, 3, none⟩ = some (.int .i64 c.over) ∧ W.cell? ⟨w.heap.size, 4, none⟩ = some (.slice (some ⟨b, off, none⟩) l.length ic) ∧ W.cell? ⟨b, off + i, none⟩ = some (.int .i64 x) ∧ Below W2.heap.size W2 W from fun W hW => by
              obtain ⟨p0, p1, p2, p3, p4, p5, -⟩ := HS.out W (nxt hb12 hW)
              exact ⟨p0, p1, p2, p3, p4, p5, hW⟩)
            have HB12 := hidM hb12
            clear hb2 hb12 r0 r1 r2 r3 r4 r5
            rw [findRes_none HOK.out hf.out] at HFD
            go_wp2_with fail
            go_region_held3 (fun W => W.cell? ⟨w.heap.size, 0, none⟩ = some (.int .i64 c.sites) ∧ W.cell? ⟨w.heap.size, 1, none⟩ = some (.slice va c.splits.length vc) ∧ W.cell? ⟨w.heap.size, 2, none⟩ = some (.int .i64 c.again) ∧ W.cell? ⟨w.heap.size, 3, none⟩ = some (.int .i64 c.over) ∧ W.cell? ⟨w.heap.size, 4, none⟩ = some (.slice (some ⟨b, off, none⟩) l.length ic) ∧ W.cell? ⟨b, off + i, none⟩ = some (.int .i64 x) ∧ Below W2.heap.size W2 W)
              (first
                | exact HS2.out _ (Below.refl _ _).drew
                | exact HS2.out _ ((Below.refl W2.heap.size W2).drew.alloc (Nat.le_refl _) _)
                | exact HS2.out _ hb23
                | exact HS2.out _ (hb23.alloc hb23.size _)
                | exact HS2.out _ (((hb23.setCell (p := ⟨_, 0, none⟩) (Nat.le_refl _) _).setCell (p := ⟨_, 1, none⟩) (Nat.le_refl _) _).setCell (p := ⟨_, 2, none⟩) (Nat.le_refl _) _))
              (first
                | (go_at_call 10; refine (HFD.out ((W2.drew).alloc (.cells #[.int .i64 0, .string ⟨#[]⟩, .slice none 0 0] 35)) (nxt HB12.out ((Below.refl W2.heap.size W2).drew.alloc (Nat.le_refl _) _))).mono ?_; rintro e W3 ⟨⟨v3, rfl, ho3⟩, hb3⟩; obtain ⟨a3, n3, rfl⟩ := id ho3.shape; have hb23 := nxt ((Below.refl W2.heap.size W2).drew.alloc (Nat.le_refl _) (.cells #[.int .i64 0, .string ⟨#[]⟩, .slice none 0 0] 35)) hb3; have BZ : BlkP W3 W2.heap.size (.int .i64 0) (.string ⟨#[]⟩) (.slice none 0 0) := (BlkP.new W2.drew (.int .i64 0) (.string ⟨#[]⟩) (.slice none 0 0)).below hb3; obtain ⟨z0, z1, z2⟩ := BZ.cells; have k0 := BZ.free 0; have k1 := BZ.free 1; have k2 := BZ.free 2; have HBZ := hidM BZ; have HO3 := hidM ho3; clear BZ ho3)
                | (go_at_call 10; refine (HFD.out (W2.drew) (nxt HB12.out (Below.refl W2.heap.size W2).drew)).mono ?_; rintro e W3 ⟨⟨v3, rfl, ho3⟩, hb3⟩; obtain ⟨a3, n3, rfl⟩ := id ho3.shape; have hb23 := nxt (Below.refl W2.heap.size W2).drew hb3; have HO3 := hidM ho3; clear ho3))
            all_goals first
              | (
                  obtain ⟨W4, hW4⟩ : ∃ W4 : World, W4 = W3.alloc (.cells #[.int .i64 0, .string ⟨#[]⟩, .slice a3 0 n3] 35) := ⟨_, rfl⟩
                  have BP : BlkP W4 W3.heap.size (.int .i64 0) (.string ⟨#[]⟩) (.slice a3 0 n3) := by rw [hW4]; exact BlkP.new W3 _ _ _
                  have hb34 : Below W3.heap.size W3 W4 := by rw [hW4]; exact (Below.refl _ _).alloc (Nat.le_refl _) _
                  have hb24 := nxt hb23 hb34
                  have HO4 : Hid (OwnN W4 W2.heap.size (.slice a3 0 n3) []) := OwnN.below HO3.out hb34
                  have hge : W2.heap.size ≤ W3.heap.size := hb23.size
                  rw [← hW4]
                  generalize W3.heap.size = B6 at BP hge ⊢)
              | (
                  obtain ⟨W4, hW4⟩ : ∃ W4 : World, W4 = ((W3.setCell ⟨W2.heap.size, 0, none⟩ (.int .i64 0)).setCell ⟨W2.heap.size, 1, none⟩ (.string ⟨#[]⟩)).setCell ⟨W2.heap.size, 2, none⟩ (.slice a3 0 n3) := ⟨_, rfl⟩
                  have BP : BlkP W4 W2.heap.size (.int .i64 0) (.string ⟨#[]⟩) (.slice a3 0 n3) := by rw [hW4]; exact HBZ.out.put _ _ _
                  have hb24 : Below W2.heap.size W2 W4 := by rw [hW4]; exact ((hb23.setCell (p := ⟨_, 0, none⟩) (Nat.le_refl _) _).setCell (p := ⟨_, 1, none⟩) (Nat.le_refl _) _).setCell (p := ⟨_, 2, none⟩) (Nat.le_refl _) _
                  have HO4 : Hid (OwnN W4 W2.heap.size (.slice a3 0 n3) []) := by
                    rw [hW4]
                    exact (ownN_set (ownN_set (ownN_set HO3.out (by simp) _) (by simp) _) (by simp) _).lower (by simp)
                  have hge : W2.heap.size ≤ W2.heap.size := Nat.le_refl _
                  rw [← hW4]
                  obtain ⟨B6, hB6⟩ : ∃ B6, B6 = W2.heap.size := ⟨_, rfl⟩
                  rw [← hB6] at BP ⊢
                  clear hB6)
            all_goals
              obtain ⟨W9, hW9⟩ : ∃ W9 : World, W9 = W4.alloc (.cells #[.int .i64 0, .string ⟨#[]⟩, .slice none 0 0] 35) := ⟨_, rfl⟩
              have hb49 : Below W4.heap.size W4 W9 := by rw [hW9]; exact (Below.refl _ _).alloc (Nat.le_refl _) _
              have BW : BlkP W9 W4.heap.size (.int .i64 0) (.string ⟨#[]⟩) (.slice none 0 0) := by rw [hW9]; exact BlkP.new W4 _ _ _
              have HBP := hidM (fun (W : World) (hW : Below W4.heap.size W4 W) => BP.below hW)
              have HOB := hidM (fun (W : World) (hW : Below W4.heap.size W4 W) => OwnN.below HO4.out hW)
              have HSZ := hidM (fun (W : World) (hW : Below W4.heap.size W4 W) => (nxt hb24 hW).size)
              obtain ⟨y0, y1, y2⟩ := (BP.below hb49).cells
              obtain ⟨v0, v1, v2⟩ := BW.cells
              have HEQ := hidM (eqsplit_any 0 ⟨#[]⟩ [] a3 none n3 0 W9 ((NS.own HO4.out).below hb49) ⟨none, 0, rfl, .inl rfl⟩ (by simp))
              have HB24 := hidM hb24
              have HW9 := hidM hW9.symm
              clear BP BW hb24 hW9 hW4
              go_wp2_with (first
                | (go_at_call 7; (try rw [HW9.out]); refine (HN.out _ _).mono ?_; rintro e W6 ⟨rfl, hw6⟩; subst W6)
                | (go_at_call 11; refine HEQ.out.mono ?_; rintro e W7 ⟨rfl, hb7⟩; have hb47 := nxt hb49 hb7; obtain ⟨s0, s1, s2⟩ := (HBP.out _ hb47).cells; have HWI := hidM (wipeNums_any W2.heap.size (.slice a3 0 n3) [] W7 (HOB.out _ hb47) (by simp) (HSZ.out _ hb47)))
                | (go_at_call 12; refine HWI.out.mono ?_; rintro e W8 ⟨rfl, hb8⟩))
              have HB7 := hidM ((nxt HB24.out hb47).trans hb8)
              clear hb8 hb47 hb49 HWI HEQ HBP HO4 HB24 HW9 HOB HSZ y0 y1 y2 v0 v1 v2 s0 s1 s2 q0 q1 q2 q3 q4 q5 hb23 hge
              go_wp2
              go_loopw [10] (fun jv wr => ∃ j : Int, jv = .int .i64 j ∧ -1 ≤ j ∧ j ≤ 5 ∧ Below W2.heap.size W2 wr) (fun jv _ => (5 - intOf jv).toNat)
              case atStart => exact ⟨-1, rfl, by omega, by omega, HB7.out⟩
              case round =>
                clear HB7
                rename World => w3
                obtain ⟨j, rfl, hj1, hj5, hbr⟩ := hrel
                have HBR3 := hidM hbr
                obtain ⟨r0, r1, r2, r3, r4, r5, -⟩ := HS2.out w3 hbr
                by_cases hj4 : j ≤ 4
                · have HS3 := hidM (show ∀ W, Below w3.heap.size w3 W → W.cell? ⟨w.heap.size, 0, none⟩ = some (.int .i64 c.sites) ∧ W.cell? ⟨w.heap.size, 1, none⟩ = some (.slice va c.splits.length vc) ∧ W.cell? ⟨w.heap.size, 2, none⟩ = some (.int .i64 c.again) ∧ W.cell? ⟨w.heap.size, 3, none⟩ = some (.int .i64 c.over) ∧ W.cell? ⟨w.heap.size, 4, none⟩ = some (.slice (some ⟨b, off, none⟩) l.length ic) ∧ W.cell? ⟨b, off + i, none⟩ = some (.int .i64 x) ∧ Below w3.heap.size w3 W from fun W hW => by
                    obtain ⟨p0, p1, p2, p3, p4, p5, -⟩ := HS2.out W (nxt HBR3.out hW)
                    exact ⟨p0, p1, p2, p3, p4, p5, hW⟩)
                  have HNX := hidM (fun W (hW : Below w3.heap.size w3 W) => next12_any c _ x j W (HIN.out W (nxt HBR.out (nxt HB12.out (nxt HBR3.out hW)))))
                  have HNM := hidM (fun W => isNum_any j c.sites W)
                  clear hbr
                  by_cases hjs : 0 ≤ j ∧ j ≤ c.sites
                  · rw [decide_eq_true hjs] at HNM
                    rw [nextRes_none HOK.out hjs hf.out] at HNX
                    go_wp2_with fail
                    go_region_held3 (fun W => W.cell? ⟨w.heap.size, 0, none⟩ = some (.int .i64 c.sites) ∧ W.cell? ⟨w.heap.size, 1, none⟩ = some (.slice va c.splits.length vc) ∧ W.cell? ⟨w.heap.size, 2, none⟩ = some (.int .i64 c.again) ∧ W.cell? ⟨w.heap.size, 3, none⟩ = some (.int .i64 c.over) ∧ W.cell? ⟨w.heap.size, 4, none⟩ = some (.slice (some ⟨b, off, none⟩) l.length ic) ∧ W.cell? ⟨b, off + i, none⟩ = some (.int .i64 x) ∧ Below w3.heap.size w3 W)
                      (first | exact HS3.out _ (Below.refl _ _).drew | exact HS3.out _ (nxt (Below.refl w3.heap.size w3).drew hb5))
                      (first | (go_at_call 13; refine (HNX.out _ (Below.refl w3.heap.size w3).drew).mono ?_; rintro e W5 ⟨rfl, hb5⟩))
                    have hb35 := nxt (Below.refl w3.heap.size w3).drew hb5
                    obtain ⟨g0, g1, g2, g3, g4, g5, -⟩ := HS3.out W5 hb35
                    clear hb5
                    go_wp2_with (first
                      | (go_at_call 14; refine (HNM.out _).mono ?_; rintro e W6 ⟨rfl, hw6⟩; subst W6)
                      | (go_at_call 7; refine (HN.out _ _).mono ?_; rintro e W6 ⟨rfl, hw6⟩; subst W6))
                    go_roundw
                    case rel => exact ⟨j + 1, by go_num, by omega, by omega, nxt HBR3.out (hb35)⟩
                    case measure => simp [intOf]; omega
                  · rw [decide_eq_false hjs] at HNM
                    rw [nextRes_site hjs] at HNX
                    go_wp2_with fail
                    go_region_held3 (fun W => W.cell? ⟨w.heap.size, 0, none⟩ = some (.int .i64 c.sites) ∧ W.cell? ⟨w.heap.size, 1, none⟩ = some (.slice va c.splits.length vc) ∧ W.cell? ⟨w.heap.size, 2, none⟩ = some (.int .i64 c.again) ∧ W.cell? ⟨w.heap.size, 3, none⟩ = some (.int .i64 c.over) ∧ W.cell? ⟨w.heap.size, 4, none⟩ = some (.slice (some ⟨b, off, none⟩) l.length ic) ∧ W.cell? ⟨b, off + i, none⟩ = some (.int .i64 x) ∧ Below w3.heap.size w3 W)
                      (first | exact HS3.out _ (Below.refl _ _).drew | exact HS3.out _ (nxt (Below.refl w3.heap.size w3).drew hb5))
                      (first | (go_at_call 13; refine (HNX.out _ (Below.refl w3.heap.size w3).drew).mono ?_; rintro e W5 ⟨rfl, hb5⟩))
                    have hb35 := nxt (Below.refl w3.heap.size w3).drew hb5
                    obtain ⟨g0, g1, g2, g3, g4, g5, -⟩ := HS3.out W5 hb35
                    clear hb5
                    go_wp2_with (first
                      | (go_at_call 14; refine (HNM.out _).mono ?_; rintro e W6 ⟨rfl, hw6⟩; subst W6)
                      | (go_at_call 7; refine (HN.out _ _).mono ?_; rintro e W6 ⟨rfl, hw6⟩; subst W6))
                    go_roundw
                    case rel => exact ⟨j + 1, by go_num, by omega, by omega, nxt HBR3.out (hb35)⟩
                    case measure => simp [intOf]; omega
                · have hj4' : ¬ j ≤ 4 := hj4
                  clear hbr
                  have HS3 := hidM (show ∀ W, Below w3.heap.size w3 W → W.cell? ⟨w.heap.size, 0, none⟩ = some (.int .i64 c.sites) ∧ W.cell? ⟨w.heap.size, 1, none⟩ = some (.slice va c.splits.length vc) ∧ W.cell? ⟨w.heap.size, 2, none⟩ = some (.int .i64 c.again) ∧ W.cell? ⟨w.heap.size, 3, none⟩ = some (.int .i64 c.over) ∧ W.cell? ⟨w.heap.size, 4, none⟩ = some (.slice (some ⟨b, off, none⟩) l.length ic) ∧ W.cell? ⟨b, off + i, none⟩ = some (.int .i64 x) ∧ Below w3.heap.size w3 W from fun W hW => by
                    obtain ⟨p0, p1, p2, p3, p4, p5, -⟩ := HS2.out W (nxt HBR3.out hW)
                    exact ⟨p0, p1, p2, p3, p4, p5, hW⟩)
                  obtain ⟨n, hn⟩ : ∃ n, n = i + 1 := ⟨_, rfl⟩
                  have HRC := hidM (fun W (hW : Below w3.heap.size w3 W) => recs12_any c _ _ (l.take n) W (HIN.out W (nxt HBR.out (nxt HB12.out (nxt HBR3.out hW)))) (NS.take (HNSL.out W (nxt HB12.out (nxt HBR3.out hW))) n (by omega) ic) (by rw [List.length_take]; omega))
                  have hwi : IntKind.i64.wrap ((i : Int) + 1) = (n : Int) := by rw [IntKind.wrap_i64]; omega
                  have hn0 : (0 : Int) ≤ (n : Int) := by omega
                  have hn1 : (n : Int) ≤ (ic : Int) := by omega
                  have hn2 : n ≤ ic := by omega
                  have HNI := hidM hn
                  clear hn
                  unfold recsRes at HRC
                  rw [HOK.out] at HRC
                  simp only [if_true] at HRC
                  obtain ⟨R, hR⟩ : ∃ R, R = recsL c.splits (l.take n) := ⟨_, rfl⟩
                  rw [← hR] at HRC
                  have HR := hidM hR
                  have HRL := hidM (show R.1.length ≤ 64 * 12 from by have := recsL_len c.splits (l.take n); rw [← hR, List.length_take] at this; have := HNI.out; omega)
                  clear hR
                  go_wp2_with fail
                  go_region_held3 (fun W => W.cell? ⟨w.heap.size, 0, none⟩ = some (.int .i64 c.sites) ∧ W.cell? ⟨w.heap.size, 1, none⟩ = some (.slice va c.splits.length vc) ∧ W.cell? ⟨w.heap.size, 2, none⟩ = some (.int .i64 c.again) ∧ W.cell? ⟨w.heap.size, 3, none⟩ = some (.int .i64 c.over) ∧ W.cell? ⟨w.heap.size, 4, none⟩ = some (.slice (some ⟨b, off, none⟩) l.length ic) ∧ W.cell? ⟨b, off + i, none⟩ = some (.int .i64 x) ∧ Below w3.heap.size w3 W)
                    (first | exact HS3.out _ (Below.refl _ _).drew | exact HS3.out _ (nxt (Below.refl w3.heap.size w3).drew hb5))
                    (first | (go_at_call 16; refine (HRC.out _ (Below.refl w3.heap.size w3).drew).mono ?_; rintro e W5 ⟨⟨v5, rfl, ho5⟩, hb5⟩; obtain ⟨a5, n5, rfl⟩ := id ho5.shape; have HO5 := hidM ho5; clear ho5))
                  have hb35 := nxt (Below.refl w3.heap.size w3).drew hb5
                  have HB35 := hidM hb35
                  have HALL5 := hidM (nxt HBR.out (nxt HB12.out (nxt HBR3.out hb35)))
                  obtain ⟨g0, g1, g2, g3, g4, g5, -⟩ := HS3.out W5 hb35
                  clear hb5 hb35
                  have HS5 := hidM (show ∀ W, Below W5.heap.size W5 W → W.cell? ⟨w.heap.size, 0, none⟩ = some (.int .i64 c.sites) ∧ W.cell? ⟨w.heap.size, 1, none⟩ = some (.slice va c.splits.length vc) ∧ W.cell? ⟨w.heap.size, 2, none⟩ = some (.int .i64 c.again) ∧ W.cell? ⟨w.heap.size, 3, none⟩ = some (.int .i64 c.over) ∧ W.cell? ⟨w.heap.size, 4, none⟩ = some (.slice (some ⟨b, off, none⟩) l.length ic) ∧ W.cell? ⟨b, off + i, none⟩ = some (.int .i64 x) ∧ Below W5.heap.size W5 W from fun W hW => by
                    obtain ⟨p0, p1, p2, p3, p4, p5, -⟩ := HS3.out W (nxt HB35.out hW)
                    exact ⟨p0, p1, p2, p3, p4, p5, hW⟩)
                  have HA5 := hidM (fun W (hW : Below W5.heap.size W5 W) => nxt HALL5.out hW)
                  clear HS3
                  go_wp2
                  go_loopw [17, 18, 19] (fun wo rv kv wr => ∃ k : Nat, wo = .int .i64 0 ∧ kv = .int .i64 k ∧ k ≤ n ∧ OwnR wr W5.heap.size rv (recsL c.splits (l.take k)).1 ∧ Hid ((recsL c.splits (l.take k)).2 = 0) ∧ Below W5.heap.size W5 wr) (fun _ _ kv _ => 13 - (intOf kv).toNat)
                  case atStart => exact ⟨0, rfl, rfl, by omega, World.ownsRow_nil _ _ _ _, rfl, Below.refl _ _⟩
                  case round =>
                    rename World => w4
                    obtain ⟨q, rfl, rfl, hq, hown, HZ, hbr⟩ := hrel
                    have HBR4 := hidM hbr
                    obtain ⟨r0, r1, r2, r3, r4, r5, -⟩ := HS5.out w4 hbr
                    by_cases hqi : (q : Int) ≤ (i : Int)
                    · have hqn : q < n := by have := HNI.out; omega
                      have hql : (q : Int) < (l.length : Int) := by omega
                      have hq0 : (0 : Int) ≤ (q : Int) := by omega
                      obtain ⟨y, hy⟩ := getSome (l := l) (i := q) (by omega)
                      have hyc : ∀ W, Below W5.heap.size W5 W → W.cell? ⟨b, off + q, none⟩ = some (.int .i64 y) := fun W hW => by
                        obtain ⟨a9, c9, e9, h9⟩ := HNSL.out W (nxt HB12.out (nxt HBR3.out (nxt HB35.out hW)))
                        rcases h9 with h9 | ⟨b9, off9, e10, _, hat9⟩
                        · rw [h9] at hy; simp at hy
                        · have e91 : some ⟨b, off, none⟩ = a9 := by injection e9
                          rw [e10] at e91
                          injection e91 with e91
                          injection e91 with e92 e93
                          subst e92 e93
                          exact hat9 q y hy
                      have HS6 := hidM (show ∀ W, Below w4.heap.size w4 W → (W.cell? ⟨w.heap.size, 0, none⟩ = some (.int .i64 c.sites) ∧ W.cell? ⟨w.heap.size, 1, none⟩ = some (.slice va c.splits.length vc) ∧ W.cell? ⟨w.heap.size, 2, none⟩ = some (.int .i64 c.again) ∧ W.cell? ⟨w.heap.size, 3, none⟩ = some (.int .i64 c.over) ∧ W.cell? ⟨w.heap.size, 4, none⟩ = some (.slice (some ⟨b, off, none⟩) l.length ic) ∧ W.cell? ⟨b, off + i, none⟩ = some (.int .i64 x) ∧ W.cell? ⟨b, off + q, none⟩ = some (.int .i64 y)) ∧ Below w4.heap.size w4 W from fun W hW => by
                        obtain ⟨p0, p1, p2, p3, p4, p5, -⟩ := HS5.out W (nxt HBR4.out hW)
                        exact ⟨⟨p0, p1, p2, p3, p4, p5, hyc W (nxt HBR4.out hW)⟩, hW⟩)
                      have HRY := hidM (fun W (hW : Below w4.heap.size w4 W) => HRF.out y W (nxt HB12.out (nxt HBR3.out (nxt HB35.out (nxt HBR4.out hW)))))
                      have hsn := hidM (recs_take (S := c.splits) hy)
                      have hr6 := hyc w4 hbr
                      have HOW := hidM hown
                      have hlen := recsL_len c.splits (l.take q)
                      rw [List.length_take] at hlen
                      obtain ⟨ra, rn, rfl⟩ := hown.shape
                      clear hyc hbr hown hy
                      cases hg : findC c.splits y with
                      | none =>
                        rw [placeC_none hg] at HRY
                        have HRB := hidM (recs_bad (S := c.splits) (l := l) (k := q + 1) (by rw [hsn.out]; unfold recsN; rw [HZ.out, hg]; simp) n hqn)
                        have HRE : R = ([], 3) := HR.out.trans HRB.out
                        subst HRE
                        clear hg
                        go_wp2_with fail
                        go_region_held3 (fun W => (W.cell? ⟨w.heap.size, 0, none⟩ = some (.int .i64 c.sites) ∧ W.cell? ⟨w.heap.size, 1, none⟩ = some (.slice va c.splits.length vc) ∧ W.cell? ⟨w.heap.size, 2, none⟩ = some (.int .i64 c.again) ∧ W.cell? ⟨w.heap.size, 3, none⟩ = some (.int .i64 c.over) ∧ W.cell? ⟨w.heap.size, 4, none⟩ = some (.slice (some ⟨b, off, none⟩) l.length ic) ∧ W.cell? ⟨b, off + i, none⟩ = some (.int .i64 x) ∧ W.cell? ⟨b, off + q, none⟩ = some (.int .i64 y)) ∧ Below w4.heap.size w4 W)
                          (first | exact HS6.out _ (Below.refl _ _).drew | exact HS6.out _ (nxt (Below.refl w4.heap.size w4).drew hb6))
                          (first | (go_at_call 9; refine (HRY.out _ (Below.refl w4.heap.size w4).drew).mono ?_; rintro e W6 ⟨rfl, hb6⟩))
                        have hb56 := nxt HBR4.out (nxt (Below.refl w4.heap.size w4).drew hb6)
                        obtain ⟨g0, g1, g2, g3, g4, g5, -⟩ := HS5.out W6 hb56
                        have HEQ := hidM (eqrecs_any _ (.slice none 0 0) [] W6 ((RS.own HO5.out).below hb56) ⟨none, 0, rfl, .inl rfl⟩ (by simp))
                        clear hb6
                        go_wp2_with (first
                          | (go_at_call 7; refine (HN.out _ _).mono ?_; rintro e W8 ⟨rfl, hw8⟩; subst W8)
                          | (go_at_call 18; refine HEQ.out.mono ?_; rintro e W7 ⟨rfl, hd7⟩; have hb7 := hd7.below W6.heap.size; obtain ⟨s0, s1, s2, s3, s4, s5, -⟩ := HS5.out W7 (nxt hb56 hb7); have HC7 := hidM (HCK.out W7 (HA5.out W7 (nxt hb56 hb7))))
                          | (go_at_call 8; refine HC7.out.mono ?_; rintro e W8 ⟨rfl, hb8⟩))
                        go_roundw
                        case rel => exact ⟨n, by go_num, by have := HNI.out; omega, by have := HNI.out; omega, nxt HALL5.out (nxt (nxt hb56 hb7) hb8)⟩
                        case measure => have := HNI.out; simp [intOf]; omega
                      | some m =>
                        rw [placeC_some hg] at HRY
                        obtain ⟨⟨pi, pt, pl⟩, hpk, -⟩ := findC_some hg
                        have HST := hidM (show recsL c.splits (l.take (q + 1)) = ((recsL c.splits (l.take q)).1 ++ (allOf pt).1, 0) from by
                          rw [hsn.out]
                          unfold recsN
                          rw [HZ.out, hg]
                          simp [List.getD_eq_getElem?_getD, hpk, recsS])
                        have hptx : pt.size ≤ 140737488351232 := (HWF.out _ (List.mem_of_getElem? hpk)).txt
                        obtain ⟨b2, off2, e2, hb2, hat2⟩ := PS.atS (HIN.out W5 HALL5.out).ps hpk
                        subst e2
                        obtain ⟨d0, d1, pa, pc, d2, -⟩ := hat2
                        simp only at d0 d1 d2
                        have HSPL := hidM (show ∀ W, Below W5.heap.size W5 W → W.cell? ⟨b2, off2 + m * 3, none⟩ = some (.int .i64 pi) ∧ W.cell? ⟨b2, off2 + m * 3 + 1, none⟩ = some (.string pt) ∧ W.cell? ⟨b2, off2 + m * 3 + 2, none⟩ = some (.slice pa pl.length pc) from fun W hW =>
                          ⟨(hW.cell (p := ⟨b2, _, none⟩) hb2).trans d0, (hW.cell (p := ⟨b2, _, none⟩) hb2).trans d1, (hW.cell (p := ⟨b2, _, none⟩) hb2).trans d2⟩)
                        have hml := (List.getElem?_eq_some_iff.1 hpk).1
                        have hmi : (m : Int) < (c.splits.length : Int) := by omega
                        have hm0 : (0 : Int) ≤ (m : Int) := by omega
                        have HRR := hidM (fun W => recs11_any pi pt (.slice pa pl.length pc) W hptx)
                        have hal := allOf_len pt
                        clear hg d0 d1 d2 hb2 hpk hml
                        go_wp2_with fail
                        go_region_held3 (fun W => (W.cell? ⟨w.heap.size, 0, none⟩ = some (.int .i64 c.sites) ∧ W.cell? ⟨w.heap.size, 1, none⟩ = some (.slice (some ⟨b2, off2, none⟩) c.splits.length vc) ∧ W.cell? ⟨w.heap.size, 2, none⟩ = some (.int .i64 c.again) ∧ W.cell? ⟨w.heap.size, 3, none⟩ = some (.int .i64 c.over) ∧ W.cell? ⟨w.heap.size, 4, none⟩ = some (.slice (some ⟨b, off, none⟩) l.length ic) ∧ W.cell? ⟨b, off + i, none⟩ = some (.int .i64 x) ∧ W.cell? ⟨b, off + q, none⟩ = some (.int .i64 y)) ∧ Below w4.heap.size w4 W)
                          (first | exact HS6.out _ (Below.refl _ _).drew | exact HS6.out _ (nxt (Below.refl w4.heap.size w4).drew hb6))
                          (first | (go_at_call 9; refine (HRY.out _ (Below.refl w4.heap.size w4).drew).mono ?_; rintro e W6 ⟨rfl, hb6⟩))
                        have hb46 := nxt (Below.refl w4.heap.size w4).drew hb6
                        have hb56 := nxt HBR4.out hb46
                        obtain ⟨g0, g1, g2, g3, g4, g5, -⟩ := HS5.out W6 hb56
                        obtain ⟨d0, d1, d2⟩ := HSPL.out W6 hb56
                        have HAP := hidM (show ∀ (W7 : World) (v7 : Value), Below W6.heap.size W6 W7 → OwnR W7 W6.heap.size v7 (allOf pt).1 → ∃ v8 W8, (Builtin.append_ #[44, 44] 44 #[.slice ra (recsL c.splits (l.take q)).1.length rn, v7]).run Try.prog W7 = .ok v8 W8 ∧ OwnR W8 W5.heap.size v8 (recsL c.splits (l.take (q + 1))).1 ∧ Below W5.heap.size W5 W8 from fun W7 v7 hb7 ho7 => by
                          have h57 := nxt hb56 hb7
                          have ho := HOW.out.below (nxt hb46 hb7)
                          obtain ⟨v8, W8, q1, q2, q3⟩ := append_rs 44 ho (RS.own ho7) (by omega) h57.size
                          rw [HST.out]
                          exact ⟨v8, W8, q1, q2, h57.grown q3 h57.size (own_rowN ho)⟩)
                        clear hb6
                        go_wp2_with (first
                          | (go_at_call 17; refine (HRR.out W6).mono ?_; rintro e W7 ⟨⟨v7, rfl, ho7⟩, hb7⟩; obtain ⟨v8, W8, q1, hown8, hbel8⟩ := HAP.out W7 _ hb7 ho7; have U1 := hidM q1; obtain ⟨a7, c7, rfl⟩ := ho7.shape; clear q1 ho7)
                          | (at_builtin; refine wpList_append_run _ rfl _ _ _ rfl _ _ v8 W8 rfl rfl U1.out ?_))
                        go_roundw
                        case rel => exact ⟨q + 1, rfl, by go_num, by omega, hown8, hidM (by rw [HST.out]), hbel8⟩
                        case measure => simp [intOf]; omega
                    · have hqn : q = n := by have := HNI.out; omega
                      subst hqn
                      have hR2 : R.2 = 0 := by rw [HR.out]; exact HZ.out
                      have hR1 : R.1 = (recsL c.splits (l.take q)).1 := by rw [HR.out]
                      obtain ⟨R1, R2⟩ := R
                      simp only at hR2 hR1
                      subst hR2
                      rw [← hR1] at hown
                      have HOW := hidM hown
                      obtain ⟨ra, rn, rfl⟩ := hown.shape
                      have HEQ := hidM (eqrecs_any _ (.slice ra R1.length rn) R1 w4 ((RS.own HO5.out).below hbr) (RS.own HOW.out) (by have := HRL.out; simp only at this; omega))
                      clear hR1 hown hbr
                      go_wp2_with (first
                        | (go_at_call 7; refine (HN.out _ _).mono ?_; rintro e W8 ⟨rfl, hw8⟩; subst W8)
                        | (go_at_call 18; refine HEQ.out.mono ?_; rintro e W7 ⟨rfl, hd7⟩; have hb7 := hd7.below w4.heap.size; obtain ⟨s0, s1, s2, s3, s4, s5, -⟩ := HS5.out W7 (nxt HBR4.out hb7); have HC7 := hidM (HCK.out W7 (HA5.out W7 (nxt HBR4.out hb7))))
                        | (go_at_call 8; refine HC7.out.mono ?_; rintro e W8 ⟨rfl, hb8⟩))
                      go_roundw
                      case rel => exact ⟨q, by go_num, by have := HNI.out; omega, by have := HNI.out; omega, nxt HALL5.out (nxt (nxt HBR4.out hb7) hb8)⟩
                      case measure => have := HNI.out; simp [intOf]; omega
        | some k =>
          have hf := hidM hf0
          obtain ⟨⟨si, st, sl⟩, hk0, -⟩ := findC_some hf0
          have hk := hidM hk0
          have HRX := hidM (fun W (hW : Below w1.heap.size w1 W) => HRF.out x W hW)
          rw [placeC_some hf0] at HRX
          as_aux_lemma =>
            obtain ⟨b1, o1, e1, hb1', hat1⟩ := PS.atS (HIN.out w1 HBR.out).ps hk0
            subst e1
            obtain ⟨d0, d1, sa, sc, d2, hns1, -⟩ := hat1
            simp only at d0 d1 d2 hns1
            have HSP := hidM (show ∀ W, Below w1.heap.size w1 W → W.cell? ⟨b1, o1 + k * 3, none⟩ = some (.int .i64 si) ∧ W.cell? ⟨b1, o1 + k * 3 + 1, none⟩ = some (.string st) ∧ W.cell? ⟨b1, o1 + k * 3 + 2, none⟩ = some (.slice sa sl.length sc) from fun W hW =>
              ⟨(hW.cell (p := ⟨b1, _, none⟩) hb1').trans d0, (hW.cell (p := ⟨b1, _, none⟩) hb1').trans d1, (hW.cell (p := ⟨b1, _, none⟩) hb1').trans d2⟩)
            have HSNS := hidM (show ∀ W, Below w1.heap.size w1 W → NS W (.slice sa sl.length sc) sl from fun W hW => hns1.below hW)
            have hsl : sl.length ≤ 17592186043904 := (HWF.out _ (List.mem_of_getElem? hk0)).len
            have hsl0 : 0 < sl.length := (spB_of ((cfgB_of HOK.out).2.1 _ (List.mem_of_getElem? hk0))).2.2.1
            have hkl := (List.getElem?_eq_some_iff.1 hk0).1
            have hkli : (k : Int) < (c.splits.length : Int) := by omega
            have hkl0 : (0 : Int) ≤ (k : Int) := by omega
            rw [findRes_some HOK.out hf0 hk0] at HFD
            simp only at HFD
            clear d0 d1 d2 hns1 hf0 hk0 hkl hb1'
            go_wp2_with fail
            go_region_held3 (fun W => W.cell? ⟨w.heap.size, 0, none⟩ = some (.int .i64 c.sites) ∧ W.cell? ⟨w.heap.size, 1, none⟩ = some (.slice (some ⟨b1, o1, none⟩) c.splits.length vc) ∧ W.cell? ⟨w.heap.size, 2, none⟩ = some (.int .i64 c.again) ∧ W.cell? ⟨w.heap.size, 3, none⟩ = some (.int .i64 c.over) ∧ W.cell? ⟨w.heap.size, 4, none⟩ = some (.slice (some ⟨b, off, none⟩) l.length ic) ∧ W.cell? ⟨b, off + i, none⟩ = some (.int .i64 x) ∧ Below w1.heap.size w1 W)
              (first | exact HS.out _ (Below.refl _ _).drew | exact HS.out _ (nxt (Below.refl w1.heap.size w1).drew hb2))
              (first | (go_at_call 9; refine (HRX.out _ (Below.refl w1.heap.size w1).drew).mono ?_; rintro e W2 ⟨rfl, hb2⟩))
            have hb12 := nxt (Below.refl w1.heap.size w1).drew hb2
            obtain ⟨q0, q1, q2, q3, q4, q5, -⟩ := HS.out W2 hb12
            have HS2 := hidM (show ∀ W, Below W2.heap.size W2 W → W.cell? ⟨w.heap.size, 0, none⟩ = some (.int .i64 c.sites) ∧ W.cell? ⟨w.heap.size, 1, none⟩ = some (.slice (some ⟨b1, o1, none⟩) c.splits.length vc) ∧ W.cell? ⟨w.heap.size, 2, none⟩ = some (.int .i64 c.again) ∧ W.cell? ⟨w.heap.size, 3, none⟩ = some (.int .i64 c.over) ∧ W.cell? ⟨w.heap.size, 4, none⟩ = some (.slice (some ⟨b, off, none⟩) l.length ic) ∧ W.cell? ⟨b, off + i, none⟩ = some (.int .i64 x) ∧ Below W2.heap.size W2 W from fun W hW => by
              obtain ⟨p0, p1, p2, p3, p4, p5, -⟩ := HS.out W (nxt hb12 hW)
              exact ⟨p0, p1, p2, p3, p4, p5, hW⟩)
            have HB12 := hidM hb12
            clear hb2 hb12 r0 r1 r2 r3 r4 r5
            go_wp2_with fail
            go_region_held3 (fun W => W.cell? ⟨w.heap.size, 0, none⟩ = some (.int .i64 c.sites) ∧ W.cell? ⟨w.heap.size, 1, none⟩ = some (.slice (some ⟨b1, o1, none⟩) c.splits.length vc) ∧ W.cell? ⟨w.heap.size, 2, none⟩ = some (.int .i64 c.again) ∧ W.cell? ⟨w.heap.size, 3, none⟩ = some (.int .i64 c.over) ∧ W.cell? ⟨w.heap.size, 4, none⟩ = some (.slice (some ⟨b, off, none⟩) l.length ic) ∧ W.cell? ⟨b, off + i, none⟩ = some (.int .i64 x) ∧ Below W2.heap.size W2 W)
              (first
                | exact HS2.out _ (Below.refl _ _).drew
                | exact HS2.out _ ((Below.refl W2.heap.size W2).drew.alloc (Nat.le_refl _) _)
                | exact HS2.out _ hb23
                | exact HS2.out _ (hb23.alloc hb23.size _)
                | exact HS2.out _ (((hb23.setCell (p := ⟨_, 0, none⟩) (Nat.le_refl _) _).setCell (p := ⟨_, 1, none⟩) (Nat.le_refl _) _).setCell (p := ⟨_, 2, none⟩) (Nat.le_refl _) _))
              (first
                | (go_at_call 10; refine (HFD.out ((W2.drew).alloc (.cells #[.int .i64 0, .string ⟨#[]⟩, .slice none 0 0] 35)) (nxt HB12.out ((Below.refl W2.heap.size W2).drew.alloc (Nat.le_refl _) _))).mono ?_; rintro e W3 ⟨⟨v3, rfl, ho3⟩, hb3⟩; obtain ⟨a3, n3, rfl⟩ := id ho3.shape; have hb23 := nxt ((Below.refl W2.heap.size W2).drew.alloc (Nat.le_refl _) (.cells #[.int .i64 0, .string ⟨#[]⟩, .slice none 0 0] 35)) hb3; have BZ : BlkP W3 W2.heap.size (.int .i64 0) (.string ⟨#[]⟩) (.slice none 0 0) := (BlkP.new W2.drew (.int .i64 0) (.string ⟨#[]⟩) (.slice none 0 0)).below hb3; obtain ⟨z0, z1, z2⟩ := BZ.cells; have k0 := BZ.free 0; have k1 := BZ.free 1; have k2 := BZ.free 2; have HBZ := hidM BZ; have HO3 := hidM ho3; clear BZ ho3)
                | (go_at_call 10; refine (HFD.out (W2.drew) (nxt HB12.out (Below.refl W2.heap.size W2).drew)).mono ?_; rintro e W3 ⟨⟨v3, rfl, ho3⟩, hb3⟩; obtain ⟨a3, n3, rfl⟩ := id ho3.shape; have hb23 := nxt (Below.refl W2.heap.size W2).drew hb3; have HO3 := hidM ho3; clear ho3))
            all_goals first
              | (
                  obtain ⟨W4, hW4⟩ : ∃ W4 : World, W4 = W3.alloc (.cells #[.int .i64 si, .string st, .slice a3 sl.length n3] 35) := ⟨_, rfl⟩
                  have BP : BlkP W4 W3.heap.size (.int .i64 si) (.string st) (.slice a3 sl.length n3) := by rw [hW4]; exact BlkP.new W3 _ _ _
                  have hb34 : Below W3.heap.size W3 W4 := by rw [hW4]; exact (Below.refl _ _).alloc (Nat.le_refl _) _
                  have hb24 := nxt hb23 hb34
                  have HO4 : Hid (OwnN W4 W2.heap.size (.slice a3 sl.length n3) sl) := OwnN.below HO3.out hb34
                  have hge : W2.heap.size ≤ W3.heap.size := hb23.size
                  rw [← hW4]
                  generalize W3.heap.size = B6 at BP hge ⊢)
              | (
                  obtain ⟨W4, hW4⟩ : ∃ W4 : World, W4 = ((W3.setCell ⟨W2.heap.size, 0, none⟩ (.int .i64 si)).setCell ⟨W2.heap.size, 1, none⟩ (.string st)).setCell ⟨W2.heap.size, 2, none⟩ (.slice a3 sl.length n3) := ⟨_, rfl⟩
                  have BP : BlkP W4 W2.heap.size (.int .i64 si) (.string st) (.slice a3 sl.length n3) := by rw [hW4]; exact HBZ.out.put _ _ _
                  have hb24 : Below W2.heap.size W2 W4 := by rw [hW4]; exact ((hb23.setCell (p := ⟨_, 0, none⟩) (Nat.le_refl _) _).setCell (p := ⟨_, 1, none⟩) (Nat.le_refl _) _).setCell (p := ⟨_, 2, none⟩) (Nat.le_refl _) _
                  have HO4 : Hid (OwnN W4 W2.heap.size (.slice a3 sl.length n3) sl) := by
                    rw [hW4]
                    exact (ownN_set (ownN_set (ownN_set HO3.out (by simp) _) (by simp) _) (by simp) _).lower (by simp)
                  have hge : W2.heap.size ≤ W2.heap.size := Nat.le_refl _
                  rw [← hW4]
                  obtain ⟨B6, hB6⟩ : ∃ B6, B6 = W2.heap.size := ⟨_, rfl⟩
                  rw [← hB6] at BP ⊢
                  clear hB6)
            all_goals
              obtain ⟨W9, hW9⟩ : ∃ W9 : World, W9 = W4.alloc (.cells #[.int .i64 0, .string ⟨#[]⟩, .slice none 0 0] 35) := ⟨_, rfl⟩
              have hb49 : Below W4.heap.size W4 W9 := by rw [hW9]; exact (Below.refl _ _).alloc (Nat.le_refl _) _
              have BW : BlkP W9 W4.heap.size (.int .i64 0) (.string ⟨#[]⟩) (.slice none 0 0) := by rw [hW9]; exact BlkP.new W4 _ _ _
              have HBP := hidM (fun (W : World) (hW : Below W4.heap.size W4 W) => BP.below hW)
              have HOB := hidM (fun (W : World) (hW : Below W4.heap.size W4 W) => OwnN.below HO4.out hW)
              have HSZ := hidM (fun (W : World) (hW : Below W4.heap.size W4 W) => (nxt hb24 hW).size)
              obtain ⟨v0, v1, v2⟩ := BW.cells
              have k0 := BW.free 0
              have k1 := BW.free 1
              have k2 := BW.free 2
              have HB24 := hidM hb24
              have HW9 := hidM hW9.symm
              have HS15 := hidM (show ∀ W, Below W4.heap.size W4 W → W.cell? ⟨w.heap.size, 1, none⟩ = some (.slice (some ⟨b1, o1, none⟩) c.splits.length vc) ∧ W.cell? ⟨b1, o1 + k * 3, none⟩ = some (.int .i64 si) ∧ W.cell? ⟨b1, o1 + k * 3 + 1, none⟩ = some (.string st) ∧ W.cell? ⟨b1, o1 + k * 3 + 2, none⟩ = some (.slice sa sl.length sc) ∧ Below W4.heap.size W4 W from fun W hW => by
                obtain ⟨p0, p1, p2, p3, p4, p5, -⟩ := HS2.out W (nxt HB24.out hW)
                obtain ⟨u0, u1, u2⟩ := HSP.out W (nxt HB12.out (nxt HB24.out hW))
                exact ⟨p1, u0, u1, u2, hW⟩)
              have HBW := hidM BW
              have HB49 := hidM hb49
              clear BP BW hb24 hW9 hW4 q0 q1 q2 q3 q4 q5 hb23 hge
              go_wp2_with fail
              rw [HW9.out]
              go_region_held3 (fun W => W.cell? ⟨w.heap.size, 1, none⟩ = some (.slice (some ⟨b1, o1, none⟩) c.splits.length vc) ∧ W.cell? ⟨b1, o1 + k * 3, none⟩ = some (.int .i64 si) ∧ W.cell? ⟨b1, o1 + k * 3 + 1, none⟩ = some (.string st) ∧ W.cell? ⟨b1, o1 + k * 3 + 2, none⟩ = some (.slice sa sl.length sc) ∧ Below W4.heap.size W4 W)
                (first
                  | exact HS15.out _ HB49.out.drew
                  | exact HS15.out _ (((HB49.out.drew.setCell (p := ⟨_, 0, none⟩) (Nat.le_refl _) _).setCell (p := ⟨_, 1, none⟩) (Nat.le_refl _) _).setCell (p := ⟨_, 2, none⟩) (Nat.le_refl _) _)
                  | exact HS15.out _ ((((HB49.out.setCell (p := ⟨_, 0, none⟩) (Nat.le_refl _) _).setCell (p := ⟨_, 1, none⟩) (Nat.le_refl _) _).setCell (p := ⟨_, 2, none⟩) (Nat.le_refl _) _).drew))
                (first | fail)
              first
                | (
                  obtain ⟨W10, hW10⟩ : ∃ W10 : World, W10 = ((W9.drew.setCell ⟨W4.heap.size, 0, none⟩ (.int .i64 si)).setCell ⟨W4.heap.size, 1, none⟩ (.string st)).setCell ⟨W4.heap.size, 2, none⟩ (.slice sa sl.length sc) := ⟨_, rfl⟩
                  have BW2 : BlkP W10 W4.heap.size (.int .i64 si) (.string st) (.slice sa sl.length sc) := by rw [hW10]; exact BlkP.put (W := W9.drew) HBW.out _ _ _
                  have hb410 : Below W4.heap.size W4 W10 := by rw [hW10]; exact (((HB49.out.drew.setCell (p := ⟨_, 0, none⟩) (Nat.le_refl _) _).setCell (p := ⟨_, 1, none⟩) (Nat.le_refl _) _).setCell (p := ⟨_, 2, none⟩) (Nat.le_refl _) _)
                  rw [← hW10])
                | (
                  obtain ⟨W10, hW10⟩ : ∃ W10 : World, W10 = (((W9.setCell ⟨W4.heap.size, 0, none⟩ (.int .i64 si)).setCell ⟨W4.heap.size, 1, none⟩ (.string st)).setCell ⟨W4.heap.size, 2, none⟩ (.slice sa sl.length sc)).drew := ⟨_, rfl⟩
                  have BW2 : BlkP W10 W4.heap.size (.int .i64 si) (.string st) (.slice sa sl.length sc) := by rw [hW10]; exact BlkP.put (W := W9) HBW.out _ _ _
                  have hb410 : Below W4.heap.size W4 W10 := by rw [hW10]; exact (((HB49.out.setCell (p := ⟨_, 0, none⟩) (Nat.le_refl _) _).setCell (p := ⟨_, 1, none⟩) (Nat.le_refl _) _).setCell (p := ⟨_, 2, none⟩) (Nat.le_refl _) _).drew
                  rw [← hW10])
              obtain ⟨y0, y1, y2⟩ := (HBP.out _ hb410).cells
              obtain ⟨x0, x1, x2⟩ := BW2.cells
              have HEQ := hidM (eqsplit_any si st sl a3 sa n3 sc W10 (NS.own (HOB.out _ hb410)) (HSNS.out W10 (nxt HB12.out (nxt HB24.out hb410))) hsl)
              clear BW2 hW10 v0 v1 v2 k0 k1 k2
              go_wp2_with (first
                | (go_at_call 7; (try rw [HW9.out]); refine (HN.out _ _).mono ?_; rintro e W6 ⟨rfl, hw6⟩; subst W6)
                | (go_at_call 11; refine HEQ.out.mono ?_; rintro e W7 ⟨rfl, hb7⟩; have hb47 := nxt hb410 hb7; obtain ⟨s0, s1, s2⟩ := (HBP.out _ hb47).cells; have HWI := hidM (wipeNums_any W2.heap.size (.slice a3 sl.length n3) sl W7 (HOB.out _ hb47) (by omega) (HSZ.out _ hb47)))
                | (go_at_call 12; refine HWI.out.mono ?_; rintro e W8 ⟨rfl, hb8⟩))
              have HB7 := hidM ((nxt HB24.out hb47).trans hb8)
              clear hb8 hb47 hb410 HWI HEQ HBP HO4 HB24 HW9 HOB HSZ y0 y1 y2 x0 x1 x2 s0 s1 s2 HS15 HBW HB49
              go_wp2
              go_loopw [10] (fun jv wr => ∃ j : Int, jv = .int .i64 j ∧ -1 ≤ j ∧ j ≤ 5 ∧ Below W2.heap.size W2 wr) (fun jv _ => (5 - intOf jv).toNat)
              case atStart => exact ⟨-1, rfl, by omega, by omega, HB7.out⟩
              case round =>
                clear HB7
                rename World => w3
                obtain ⟨j, rfl, hj1, hj5, hbr⟩ := hrel
                have HBR3 := hidM hbr
                obtain ⟨r0, r1, r2, r3, r4, r5, -⟩ := HS2.out w3 hbr
                by_cases hj4 : j ≤ 4
                · have HS3 := hidM (show ∀ W, Below w3.heap.size w3 W → W.cell? ⟨w.heap.size, 0, none⟩ = some (.int .i64 c.sites) ∧ W.cell? ⟨w.heap.size, 1, none⟩ = some (.slice (some ⟨b1, o1, none⟩) c.splits.length vc) ∧ W.cell? ⟨w.heap.size, 2, none⟩ = some (.int .i64 c.again) ∧ W.cell? ⟨w.heap.size, 3, none⟩ = some (.int .i64 c.over) ∧ W.cell? ⟨w.heap.size, 4, none⟩ = some (.slice (some ⟨b, off, none⟩) l.length ic) ∧ W.cell? ⟨b, off + i, none⟩ = some (.int .i64 x) ∧ Below w3.heap.size w3 W from fun W hW => by
                    obtain ⟨p0, p1, p2, p3, p4, p5, -⟩ := HS2.out W (nxt HBR3.out hW)
                    exact ⟨p0, p1, p2, p3, p4, p5, hW⟩)
                  have HNX := hidM (fun W (hW : Below w3.heap.size w3 W) => next12_any c _ x j W (HIN.out W (nxt HBR.out (nxt HB12.out (nxt HBR3.out hW)))))
                  have HNM := hidM (fun W => isNum_any j c.sites W)
                  clear hbr
                  by_cases hjs : 0 ≤ j ∧ j ≤ c.sites
                  · rw [decide_eq_true hjs] at HNM
                    rw [nextRes_some HOK.out hjs hf.out hk.out] at HNX
                    simp only at HNX
                    have HSC := hidM (fun W (hW : Below w3.heap.size w3 W) => HSP.out W (nxt HB12.out (nxt HBR3.out hW)))
                    have HRN := hidM (fun W (hW : Below w3.heap.size w3 W) => rnext_any si st sl sa sc j W (HSNS.out W (nxt HB12.out (nxt HBR3.out hW))) hsl0 hsl)
                    go_wp2_with fail
                    go_region_held3 (fun W => W.cell? ⟨w.heap.size, 0, none⟩ = some (.int .i64 c.sites) ∧ W.cell? ⟨w.heap.size, 1, none⟩ = some (.slice (some ⟨b1, o1, none⟩) c.splits.length vc) ∧ W.cell? ⟨w.heap.size, 2, none⟩ = some (.int .i64 c.again) ∧ W.cell? ⟨w.heap.size, 3, none⟩ = some (.int .i64 c.over) ∧ W.cell? ⟨w.heap.size, 4, none⟩ = some (.slice (some ⟨b, off, none⟩) l.length ic) ∧ W.cell? ⟨b, off + i, none⟩ = some (.int .i64 x) ∧ Below w3.heap.size w3 W)
                      (first | exact HS3.out _ (Below.refl _ _).drew | exact HS3.out _ (nxt (Below.refl w3.heap.size w3).drew hb5))
                      (first | (go_at_call 13; refine (HNX.out _ (Below.refl w3.heap.size w3).drew).mono ?_; rintro e W5 ⟨rfl, hb5⟩))
                    have hb35 := nxt (Below.refl w3.heap.size w3).drew hb5
                    obtain ⟨g0, g1, g2, g3, g4, g5, -⟩ := HS3.out W5 hb35
                    obtain ⟨e0, e1, e2⟩ := HSC.out W5 hb35
                    clear hb5
                    go_wp2_with (first
                      | (go_at_call 14; refine (HNM.out _).mono ?_; rintro e W6 ⟨rfl, hw6⟩; subst W6)
                      | (go_at_call 15; refine (HRN.out W5 hb35).mono ?_; rintro e W7 ⟨rfl, hb7⟩)
                      | (go_at_call 7; refine (HN.out _ _).mono ?_; rintro e W6 ⟨rfl, hw6⟩; subst W6))
                    go_roundw
                    case rel => exact ⟨j + 1, by go_num, by omega, by omega, nxt HBR3.out (nxt hb35 hb7)⟩
                    case measure => simp [intOf]; omega
                  · rw [decide_eq_false hjs] at HNM
                    rw [nextRes_site hjs] at HNX
                    go_wp2_with fail
                    go_region_held3 (fun W => W.cell? ⟨w.heap.size, 0, none⟩ = some (.int .i64 c.sites) ∧ W.cell? ⟨w.heap.size, 1, none⟩ = some (.slice (some ⟨b1, o1, none⟩) c.splits.length vc) ∧ W.cell? ⟨w.heap.size, 2, none⟩ = some (.int .i64 c.again) ∧ W.cell? ⟨w.heap.size, 3, none⟩ = some (.int .i64 c.over) ∧ W.cell? ⟨w.heap.size, 4, none⟩ = some (.slice (some ⟨b, off, none⟩) l.length ic) ∧ W.cell? ⟨b, off + i, none⟩ = some (.int .i64 x) ∧ Below w3.heap.size w3 W)
                      (first | exact HS3.out _ (Below.refl _ _).drew | exact HS3.out _ (nxt (Below.refl w3.heap.size w3).drew hb5))
                      (first | (go_at_call 13; refine (HNX.out _ (Below.refl w3.heap.size w3).drew).mono ?_; rintro e W5 ⟨rfl, hb5⟩))
                    have hb35 := nxt (Below.refl w3.heap.size w3).drew hb5
                    obtain ⟨g0, g1, g2, g3, g4, g5, -⟩ := HS3.out W5 hb35
                    clear hb5
                    go_wp2_with (first
                      | (go_at_call 14; refine (HNM.out _).mono ?_; rintro e W6 ⟨rfl, hw6⟩; subst W6)
                      | (go_at_call 7; refine (HN.out _ _).mono ?_; rintro e W6 ⟨rfl, hw6⟩; subst W6))
                    go_roundw
                    case rel => exact ⟨j + 1, by go_num, by omega, by omega, nxt HBR3.out (hb35)⟩
                    case measure => simp [intOf]; omega
                · have hj4' : ¬ j ≤ 4 := hj4
                  clear hbr
                  have HS3 := hidM (show ∀ W, Below w3.heap.size w3 W → W.cell? ⟨w.heap.size, 0, none⟩ = some (.int .i64 c.sites) ∧ W.cell? ⟨w.heap.size, 1, none⟩ = some (.slice (some ⟨b1, o1, none⟩) c.splits.length vc) ∧ W.cell? ⟨w.heap.size, 2, none⟩ = some (.int .i64 c.again) ∧ W.cell? ⟨w.heap.size, 3, none⟩ = some (.int .i64 c.over) ∧ W.cell? ⟨w.heap.size, 4, none⟩ = some (.slice (some ⟨b, off, none⟩) l.length ic) ∧ W.cell? ⟨b, off + i, none⟩ = some (.int .i64 x) ∧ Below w3.heap.size w3 W from fun W hW => by
                    obtain ⟨p0, p1, p2, p3, p4, p5, -⟩ := HS2.out W (nxt HBR3.out hW)
                    exact ⟨p0, p1, p2, p3, p4, p5, hW⟩)
                  obtain ⟨n, hn⟩ : ∃ n, n = i + 1 := ⟨_, rfl⟩
                  have HRC := hidM (fun W (hW : Below w3.heap.size w3 W) => recs12_any c _ _ (l.take n) W (HIN.out W (nxt HBR.out (nxt HB12.out (nxt HBR3.out hW)))) (NS.take (HNSL.out W (nxt HB12.out (nxt HBR3.out hW))) n (by omega) ic) (by rw [List.length_take]; omega))
                  have hwi : IntKind.i64.wrap ((i : Int) + 1) = (n : Int) := by rw [IntKind.wrap_i64]; omega
                  have hn0 : (0 : Int) ≤ (n : Int) := by omega
                  have hn1 : (n : Int) ≤ (ic : Int) := by omega
                  have hn2 : n ≤ ic := by omega
                  have HNI := hidM hn
                  clear hn
                  unfold recsRes at HRC
                  rw [HOK.out] at HRC
                  simp only [if_true] at HRC
                  obtain ⟨R, hR⟩ : ∃ R, R = recsL c.splits (l.take n) := ⟨_, rfl⟩
                  rw [← hR] at HRC
                  have HR := hidM hR
                  have HRL := hidM (show R.1.length ≤ 64 * 12 from by have := recsL_len c.splits (l.take n); rw [← hR, List.length_take] at this; have := HNI.out; omega)
                  clear hR
                  go_wp2_with fail
                  go_region_held3 (fun W => W.cell? ⟨w.heap.size, 0, none⟩ = some (.int .i64 c.sites) ∧ W.cell? ⟨w.heap.size, 1, none⟩ = some (.slice (some ⟨b1, o1, none⟩) c.splits.length vc) ∧ W.cell? ⟨w.heap.size, 2, none⟩ = some (.int .i64 c.again) ∧ W.cell? ⟨w.heap.size, 3, none⟩ = some (.int .i64 c.over) ∧ W.cell? ⟨w.heap.size, 4, none⟩ = some (.slice (some ⟨b, off, none⟩) l.length ic) ∧ W.cell? ⟨b, off + i, none⟩ = some (.int .i64 x) ∧ Below w3.heap.size w3 W)
                    (first | exact HS3.out _ (Below.refl _ _).drew | exact HS3.out _ (nxt (Below.refl w3.heap.size w3).drew hb5))
                    (first | (go_at_call 16; refine (HRC.out _ (Below.refl w3.heap.size w3).drew).mono ?_; rintro e W5 ⟨⟨v5, rfl, ho5⟩, hb5⟩; obtain ⟨a5, n5, rfl⟩ := id ho5.shape; have HO5 := hidM ho5; clear ho5))
                  have hb35 := nxt (Below.refl w3.heap.size w3).drew hb5
                  have HB35 := hidM hb35
                  have HALL5 := hidM (nxt HBR.out (nxt HB12.out (nxt HBR3.out hb35)))
                  obtain ⟨g0, g1, g2, g3, g4, g5, -⟩ := HS3.out W5 hb35
                  clear hb5 hb35
                  have HS5 := hidM (show ∀ W, Below W5.heap.size W5 W → W.cell? ⟨w.heap.size, 0, none⟩ = some (.int .i64 c.sites) ∧ W.cell? ⟨w.heap.size, 1, none⟩ = some (.slice (some ⟨b1, o1, none⟩) c.splits.length vc) ∧ W.cell? ⟨w.heap.size, 2, none⟩ = some (.int .i64 c.again) ∧ W.cell? ⟨w.heap.size, 3, none⟩ = some (.int .i64 c.over) ∧ W.cell? ⟨w.heap.size, 4, none⟩ = some (.slice (some ⟨b, off, none⟩) l.length ic) ∧ W.cell? ⟨b, off + i, none⟩ = some (.int .i64 x) ∧ Below W5.heap.size W5 W from fun W hW => by
                    obtain ⟨p0, p1, p2, p3, p4, p5, -⟩ := HS3.out W (nxt HB35.out hW)
                    exact ⟨p0, p1, p2, p3, p4, p5, hW⟩)
                  have HA5 := hidM (fun W (hW : Below W5.heap.size W5 W) => nxt HALL5.out hW)
                  clear HS3
                  go_wp2
                  go_loopw [17, 18, 19] (fun wo rv kv wr => ∃ k : Nat, wo = .int .i64 0 ∧ kv = .int .i64 k ∧ k ≤ n ∧ OwnR wr W5.heap.size rv (recsL c.splits (l.take k)).1 ∧ Hid ((recsL c.splits (l.take k)).2 = 0) ∧ Below W5.heap.size W5 wr) (fun _ _ kv _ => 13 - (intOf kv).toNat)
                  case atStart => exact ⟨0, rfl, rfl, by omega, World.ownsRow_nil _ _ _ _, rfl, Below.refl _ _⟩
                  case round =>
                    rename World => w4
                    obtain ⟨q, rfl, rfl, hq, hown, HZ, hbr⟩ := hrel
                    have HBR4 := hidM hbr
                    obtain ⟨r0, r1, r2, r3, r4, r5, -⟩ := HS5.out w4 hbr
                    by_cases hqi : (q : Int) ≤ (i : Int)
                    · have hqn : q < n := by have := HNI.out; omega
                      have hql : (q : Int) < (l.length : Int) := by omega
                      have hq0 : (0 : Int) ≤ (q : Int) := by omega
                      obtain ⟨y, hy⟩ := getSome (l := l) (i := q) (by omega)
                      have hyc : ∀ W, Below W5.heap.size W5 W → W.cell? ⟨b, off + q, none⟩ = some (.int .i64 y) := fun W hW => by
                        obtain ⟨a9, c9, e9, h9⟩ := HNSL.out W (nxt HB12.out (nxt HBR3.out (nxt HB35.out hW)))
                        rcases h9 with h9 | ⟨b9, off9, e10, _, hat9⟩
                        · rw [h9] at hy; simp at hy
                        · have e91 : some ⟨b, off, none⟩ = a9 := by injection e9
                          rw [e10] at e91
                          injection e91 with e91
                          injection e91 with e92 e93
                          subst e92 e93
                          exact hat9 q y hy
                      have HS6 := hidM (show ∀ W, Below w4.heap.size w4 W → (W.cell? ⟨w.heap.size, 0, none⟩ = some (.int .i64 c.sites) ∧ W.cell? ⟨w.heap.size, 1, none⟩ = some (.slice (some ⟨b1, o1, none⟩) c.splits.length vc) ∧ W.cell? ⟨w.heap.size, 2, none⟩ = some (.int .i64 c.again) ∧ W.cell? ⟨w.heap.size, 3, none⟩ = some (.int .i64 c.over) ∧ W.cell? ⟨w.heap.size, 4, none⟩ = some (.slice (some ⟨b, off, none⟩) l.length ic) ∧ W.cell? ⟨b, off + i, none⟩ = some (.int .i64 x) ∧ W.cell? ⟨b, off + q, none⟩ = some (.int .i64 y)) ∧ Below w4.heap.size w4 W from fun W hW => by
                        obtain ⟨p0, p1, p2, p3, p4, p5, -⟩ := HS5.out W (nxt HBR4.out hW)
                        exact ⟨⟨p0, p1, p2, p3, p4, p5, hyc W (nxt HBR4.out hW)⟩, hW⟩)
                      have HRY := hidM (fun W (hW : Below w4.heap.size w4 W) => HRF.out y W (nxt HB12.out (nxt HBR3.out (nxt HB35.out (nxt HBR4.out hW)))))
                      have hsn := hidM (recs_take (S := c.splits) hy)
                      have hr6 := hyc w4 hbr
                      have HOW := hidM hown
                      have hlen := recsL_len c.splits (l.take q)
                      rw [List.length_take] at hlen
                      obtain ⟨ra, rn, rfl⟩ := hown.shape
                      clear hyc hbr hown hy
                      cases hg : findC c.splits y with
                      | none =>
                        rw [placeC_none hg] at HRY
                        have HRB := hidM (recs_bad (S := c.splits) (l := l) (k := q + 1) (by rw [hsn.out]; unfold recsN; rw [HZ.out, hg]; simp) n hqn)
                        have HRE : R = ([], 3) := HR.out.trans HRB.out
                        subst HRE
                        clear hg
                        go_wp2_with fail
                        go_region_held3 (fun W => (W.cell? ⟨w.heap.size, 0, none⟩ = some (.int .i64 c.sites) ∧ W.cell? ⟨w.heap.size, 1, none⟩ = some (.slice (some ⟨b1, o1, none⟩) c.splits.length vc) ∧ W.cell? ⟨w.heap.size, 2, none⟩ = some (.int .i64 c.again) ∧ W.cell? ⟨w.heap.size, 3, none⟩ = some (.int .i64 c.over) ∧ W.cell? ⟨w.heap.size, 4, none⟩ = some (.slice (some ⟨b, off, none⟩) l.length ic) ∧ W.cell? ⟨b, off + i, none⟩ = some (.int .i64 x) ∧ W.cell? ⟨b, off + q, none⟩ = some (.int .i64 y)) ∧ Below w4.heap.size w4 W)
                          (first | exact HS6.out _ (Below.refl _ _).drew | exact HS6.out _ (nxt (Below.refl w4.heap.size w4).drew hb6))
                          (first | (go_at_call 9; refine (HRY.out _ (Below.refl w4.heap.size w4).drew).mono ?_; rintro e W6 ⟨rfl, hb6⟩))
                        have hb56 := nxt HBR4.out (nxt (Below.refl w4.heap.size w4).drew hb6)
                        obtain ⟨g0, g1, g2, g3, g4, g5, -⟩ := HS5.out W6 hb56
                        have HEQ := hidM (eqrecs_any _ (.slice none 0 0) [] W6 ((RS.own HO5.out).below hb56) ⟨none, 0, rfl, .inl rfl⟩ (by simp))
                        clear hb6
                        go_wp2_with (first
                          | (go_at_call 7; refine (HN.out _ _).mono ?_; rintro e W8 ⟨rfl, hw8⟩; subst W8)
                          | (go_at_call 18; refine HEQ.out.mono ?_; rintro e W7 ⟨rfl, hd7⟩; have hb7 := hd7.below W6.heap.size; obtain ⟨s0, s1, s2, s3, s4, s5, -⟩ := HS5.out W7 (nxt hb56 hb7); have HC7 := hidM (HCK.out W7 (HA5.out W7 (nxt hb56 hb7))))
                          | (go_at_call 8; refine HC7.out.mono ?_; rintro e W8 ⟨rfl, hb8⟩))
                        go_roundw
                        case rel => exact ⟨n, by go_num, by have := HNI.out; omega, by have := HNI.out; omega, nxt HALL5.out (nxt (nxt hb56 hb7) hb8)⟩
                        case measure => have := HNI.out; simp [intOf]; omega
                      | some m =>
                        rw [placeC_some hg] at HRY
                        obtain ⟨⟨pi, pt, pl⟩, hpk, -⟩ := findC_some hg
                        have HST := hidM (show recsL c.splits (l.take (q + 1)) = ((recsL c.splits (l.take q)).1 ++ (allOf pt).1, 0) from by
                          rw [hsn.out]
                          unfold recsN
                          rw [HZ.out, hg]
                          simp [List.getD_eq_getElem?_getD, hpk, recsS])
                        have hptx : pt.size ≤ 140737488351232 := (HWF.out _ (List.mem_of_getElem? hpk)).txt
                        obtain ⟨b2, off2, e2, hb2, hat2⟩ := PS.atS (HIN.out W5 HALL5.out).ps hpk
                        injection e2 with e2
                        injection e2 with e3 e4
                        subst e3 e4
                        obtain ⟨d0, d1, pa, pc, d2, -⟩ := hat2
                        simp only at d0 d1 d2
                        have HSPL := hidM (show ∀ W, Below W5.heap.size W5 W → W.cell? ⟨b1, o1 + m * 3, none⟩ = some (.int .i64 pi) ∧ W.cell? ⟨b1, o1 + m * 3 + 1, none⟩ = some (.string pt) ∧ W.cell? ⟨b1, o1 + m * 3 + 2, none⟩ = some (.slice pa pl.length pc) from fun W hW =>
                          ⟨(hW.cell (p := ⟨b1, _, none⟩) hb2).trans d0, (hW.cell (p := ⟨b1, _, none⟩) hb2).trans d1, (hW.cell (p := ⟨b1, _, none⟩) hb2).trans d2⟩)
                        have hml := (List.getElem?_eq_some_iff.1 hpk).1
                        have hmi : (m : Int) < (c.splits.length : Int) := by omega
                        have hm0 : (0 : Int) ≤ (m : Int) := by omega
                        have HRR := hidM (fun W => recs11_any pi pt (.slice pa pl.length pc) W hptx)
                        have hal := allOf_len pt
                        clear hg d0 d1 d2 hb2 hpk hml
                        go_wp2_with fail
                        go_region_held3 (fun W => (W.cell? ⟨w.heap.size, 0, none⟩ = some (.int .i64 c.sites) ∧ W.cell? ⟨w.heap.size, 1, none⟩ = some (.slice (some ⟨b1, o1, none⟩) c.splits.length vc) ∧ W.cell? ⟨w.heap.size, 2, none⟩ = some (.int .i64 c.again) ∧ W.cell? ⟨w.heap.size, 3, none⟩ = some (.int .i64 c.over) ∧ W.cell? ⟨w.heap.size, 4, none⟩ = some (.slice (some ⟨b, off, none⟩) l.length ic) ∧ W.cell? ⟨b, off + i, none⟩ = some (.int .i64 x) ∧ W.cell? ⟨b, off + q, none⟩ = some (.int .i64 y)) ∧ Below w4.heap.size w4 W)
                          (first | exact HS6.out _ (Below.refl _ _).drew | exact HS6.out _ (nxt (Below.refl w4.heap.size w4).drew hb6))
                          (first | (go_at_call 9; refine (HRY.out _ (Below.refl w4.heap.size w4).drew).mono ?_; rintro e W6 ⟨rfl, hb6⟩))
                        have hb46 := nxt (Below.refl w4.heap.size w4).drew hb6
                        have hb56 := nxt HBR4.out hb46
                        obtain ⟨g0, g1, g2, g3, g4, g5, -⟩ := HS5.out W6 hb56
                        obtain ⟨d0, d1, d2⟩ := HSPL.out W6 hb56
                        have HAP := hidM (show ∀ (W7 : World) (v7 : Value), Below W6.heap.size W6 W7 → OwnR W7 W6.heap.size v7 (allOf pt).1 → ∃ v8 W8, (Builtin.append_ #[44, 44] 44 #[.slice ra (recsL c.splits (l.take q)).1.length rn, v7]).run Try.prog W7 = .ok v8 W8 ∧ OwnR W8 W5.heap.size v8 (recsL c.splits (l.take (q + 1))).1 ∧ Below W5.heap.size W5 W8 from fun W7 v7 hb7 ho7 => by
                          have h57 := nxt hb56 hb7
                          have ho := HOW.out.below (nxt hb46 hb7)
                          obtain ⟨v8, W8, q1, q2, q3⟩ := append_rs 44 ho (RS.own ho7) (by omega) h57.size
                          rw [HST.out]
                          exact ⟨v8, W8, q1, q2, h57.grown q3 h57.size (own_rowN ho)⟩)
                        clear hb6
                        go_wp2_with (first
                          | (go_at_call 17; refine (HRR.out W6).mono ?_; rintro e W7 ⟨⟨v7, rfl, ho7⟩, hb7⟩; obtain ⟨v8, W8, q1, hown8, hbel8⟩ := HAP.out W7 _ hb7 ho7; have U1 := hidM q1; obtain ⟨a7, c7, rfl⟩ := ho7.shape; clear q1 ho7)
                          | (at_builtin; refine wpList_append_run _ rfl _ _ _ rfl _ _ v8 W8 rfl rfl U1.out ?_))
                        go_roundw
                        case rel => exact ⟨q + 1, rfl, by go_num, by omega, hown8, hidM (by rw [HST.out]), hbel8⟩
                        case measure => simp [intOf]; omega
                    · have hqn : q = n := by have := HNI.out; omega
                      subst hqn
                      have hR2 : R.2 = 0 := by rw [HR.out]; exact HZ.out
                      have hR1 : R.1 = (recsL c.splits (l.take q)).1 := by rw [HR.out]
                      obtain ⟨R1, R2⟩ := R
                      simp only at hR2 hR1
                      subst hR2
                      rw [← hR1] at hown
                      have HOW := hidM hown
                      obtain ⟨ra, rn, rfl⟩ := hown.shape
                      have HEQ := hidM (eqrecs_any _ (.slice ra R1.length rn) R1 w4 ((RS.own HO5.out).below hbr) (RS.own HOW.out) (by have := HRL.out; simp only at this; omega))
                      clear hR1 hown hbr
                      go_wp2_with (first
                        | (go_at_call 7; refine (HN.out _ _).mono ?_; rintro e W8 ⟨rfl, hw8⟩; subst W8)
                        | (go_at_call 18; refine HEQ.out.mono ?_; rintro e W7 ⟨rfl, hd7⟩; have hb7 := hd7.below w4.heap.size; obtain ⟨s0, s1, s2, s3, s4, s5, -⟩ := HS5.out W7 (nxt HBR4.out hb7); have HC7 := hidM (HCK.out W7 (HA5.out W7 (nxt HBR4.out hb7))))
                        | (go_at_call 8; refine HC7.out.mono ?_; rintro e W8 ⟨rfl, hb8⟩))
                      go_roundw
                      case rel => exact ⟨q, by go_num, by have := HNI.out; omega, by have := HNI.out; omega, nxt HALL5.out (nxt (nxt HBR4.out hb7) hb8)⟩
                      case measure => have := HNI.out; simp [intOf]; omega
      · have hii : (i : Int) < (l.length : Int) := by omega
        have hii6 : ¬ (i : Int) < 12 := by omega
        have HK1 := hidM (HK.out w1)
        go_wp2_with (go_at_call 19; refine HK1.out.mono ?_; rintro e W8 ⟨rfl, hb8⟩)
        go_ret
        exact ⟨rfl, nxt HB.out (nxt HBR.out hb8)⟩
    · have hii : ¬ (i : Int) < (l.length : Int) := by omega
      have HK1 := hidM (HK.out w1)
      go_wp2_with (go_at_call 19; refine HK1.out.mono ?_; rintro e W8 ⟨rfl, hb8⟩)
      go_ret
      exact ⟨rfl, nxt HB.out (nxt HBR.out hb8)⟩
end Go.Proofs.Ytdejdcibcihfeaa
