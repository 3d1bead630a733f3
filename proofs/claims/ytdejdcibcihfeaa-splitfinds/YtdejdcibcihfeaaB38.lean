/- The law SplitFinds: a configuration that may not be. -/
import Derived.Test.YtdejdcibcihfeaaB37
import Derived.Test.YtdejdcibcihfeaaB35
import Derived.Deep.RegionHeld3
namespace Go.Proofs.Ytdejdcibcihfeaa
open Go.RowKit
set_option linter.unusedVariables false
set_option maxRecDepth 100000

theorem ownN_set {W : World} {base b o : Nat} {v : Value} {l : List Int} (h : OwnN W base v l) (hb : b < base) (u : Value) : OwnN (W.setCell ⟨b, o, none⟩ u) base v l :=
  World.ownsRow.kept h (grownBy_set _ _ _ _) (.inr fun e => by have := own_rowN h b e; omega)
theorem OwnN.lower {w : World} {base base' : Nat} {v : Value} {l : List Int} (h : OwnN w base v l) (hb : base' ≤ base) : OwnN w base' v l := by
  refine ⟨h.1, ?_⟩
  rcases h.2 with ⟨h1, h2⟩ | ⟨g, cap, cur, h1, h2, h3, h4⟩
  · exact .inl ⟨h1, h2⟩
  · exact .inr ⟨g, cap, cur, h1, by omega, h3, h4⟩
set_option maxHeartbeats 8000000 in
theorem lawsf_bad (c : Cfg) (vp vl : Value) (l : List Int) (w : World) (h : In12 w c vp vl l) (hok : cfgB c = false) :
    Calls Try.prog 3 #[askV12 c vp vl] w fun e w' => e = .returned (.bool true) ∧ Below w.heap.size w w' := by
  obtain ⟨W0, hW0⟩ : ∃ W0 : World, W0 = w.alloc (askO12 c vp vl) := ⟨_, rfl⟩
  have hb0 : Below w.heap.size w W0 := by rw [hW0]; exact (Below.refl _ _).alloc (Nat.le_refl _) _
  have B0 : BlkK W0 w.heap.size c vp vl := by rw [hW0]; exact BlkK.new w _ _ _
  have h0 := h.below hb0
  have H1 := hidM (heavy12_any c vp vl l W0 h0)
  have HIN := hidM (show ∀ W, Below W0.heap.size W0 W → InC W c vp from fun W hW => h0.cfg.below hW)
  have HLN := hidM (show ∀ W, Below W0.heap.size W0 W → NS W vl l from fun W hW => h0.ns.below hW)
  obtain ⟨va, vc, rfl, hvc, hvc2⟩ := h.cap
  obtain ⟨ia, ic, rfl, hic, hic2⟩ := h.lcap
  have hll := h.len
  have HF := hidM (show ∀ W, Below W0.heap.size W0 W → W.cell? ⟨w.heap.size, 0, none⟩ = some (.int .i64 c.sites) ∧ W.cell? ⟨w.heap.size, 1, none⟩ = some (.slice va c.splits.length vc) ∧ W.cell? ⟨w.heap.size, 2, none⟩ = some (.int .i64 c.again) ∧ W.cell? ⟨w.heap.size, 3, none⟩ = some (.int .i64 c.over) ∧ W.cell? ⟨w.heap.size, 4, none⟩ = some (.slice ia l.length ic) from fun W hW => (B0.below hW).cells)
  have HC := hidM (fun W (hW : Below W0.heap.size W0 W) => rconfig_any c _ W (HIN.out W hW))
  have HCK := hidM (fun W (hW : Below W0.heap.size W0 W) => check12_any c _ W (HIN.out W hW))
  have HN := hidM num12_any
  have HK := hidM wakes12_any
  have HWF := hidM h.cfg.wf
  have HW := hidM hW0.symm
  have HB := hidM hb0
  clear hW0 hb0 B0 h h0
  go_enter Try.func3, Try.ntmps3
  go_wp2_with fail
  rw [HW.out]
  refine H1.out.mono ?_
  rintro e W1 ⟨⟨hv, rfl⟩, hb1⟩
  obtain ⟨b0, b1, b2, b3, b4⟩ := HF.out W1 hb1
  have HC1 := hidM (HC.out W1 hb1)
  cases hv with
  | true =>
    go_wp2
    go_ret
    exact ⟨rfl, nxt HB.out hb1⟩
  | false =>
  unfold checkRes at HCK
  rw [hok] at HC1 HCK
  go_wp2_with (first
    | (go_at_call 6; refine HC1.out.mono ?_; rintro e W2 ⟨rfl, hb2⟩; have hb12 := nxt hb1 hb2; obtain ⟨x0, x1, x2, x3, x4⟩ := HF.out W2 hb12; have HC2 := hidM (HCK.out W2 hb12))
    | (go_at_call 8; refine HC2.out.mono ?_; rintro e W3 ⟨rfl, hb3⟩)
    | (go_at_call 7; refine (HN.out _ _).mono ?_; rintro e W5 ⟨rfl, hw5⟩; subst W5))
  have HB3 := hidM (nxt hb12 hb3)
  have HOK := hidM hok
  clear b0 b1 b2 b3 b4 x0 x1 x2 x3 x4 hb1 hb2 hb3 hb12 HC1 HC2 HC H1 hok
  go_loopw [4] (fun i wr => ∃ k : Nat, i = .int .i64 k ∧ k ≤ l.length ∧ k ≤ 12 ∧ Below W0.heap.size W0 wr) (fun i _ => 12 - (intOf i).toNat)
  case atStart => exact ⟨0, rfl, by omega, by omega, HB3.out⟩
  case round =>
    clear HB3
    rename World => w1
    obtain ⟨i, rfl, hi, hi12, hbr⟩ := hrel
    have HBR := hidM hbr
    obtain ⟨r0, r1, r2, r3, r4⟩ := HF.out w1 hbr
    by_cases hil : i < l.length
    · by_cases hi6 : i < 12
      · have hii : (i : Int) < (l.length : Int) := by omega
        have hii6 : (i : Int) < 12 := by omega
        have hi0 : (0 : Int) ≤ (i : Int) := by omega
        obtain ⟨x, hy⟩ := getSome hil
        have HLX := hidM hy
        obtain ⟨a9, c9, e9, h9⟩ := HLN.out w1 hbr
        have e91 : ia = a9 := by injection e9
        clear e9
        subst e91
        rcases h9 with h9 | ⟨b, off, rfl, hb, hat⟩
        · rw [h9] at hil; simp at hil
        have hx0 := hat i x hy
        have HS := hidM (show ∀ W, Below w1.heap.size w1 W → W.cell? ⟨w.heap.size, 0, none⟩ = some (.int .i64 c.sites) ∧ W.cell? ⟨w.heap.size, 1, none⟩ = some (.slice va c.splits.length vc) ∧ W.cell? ⟨w.heap.size, 2, none⟩ = some (.int .i64 c.again) ∧ W.cell? ⟨w.heap.size, 3, none⟩ = some (.int .i64 c.over) ∧ W.cell? ⟨w.heap.size, 4, none⟩ = some (.slice (some ⟨b, off, none⟩) l.length ic) ∧ W.cell? ⟨b, off + i, none⟩ = some (.int .i64 x) ∧ Below w1.heap.size w1 W from fun W hW => by
          obtain ⟨p0, p1, p2, p3, p4⟩ := HF.out W (nxt HBR.out hW)
          exact ⟨p0, p1, p2, p3, p4, (hW.cell (p := ⟨b, _, none⟩) hb).trans hx0, hW⟩)
        have HNSL := hidM (show ∀ W, Below w1.heap.size w1 W → NS W (.slice (some ⟨b, off, none⟩) l.length ic) l from fun W hW => HLN.out W (nxt HBR.out hW))
        have HRF := hidM (fun (y : Int) W (hW : Below w1.heap.size w1 W) => rfind_any c _ y W (HIN.out W (nxt HBR.out hW)))
        have HFD := hidM (fun W (hW : Below w1.heap.size w1 W) => find12_any c _ x W (HIN.out W (nxt HBR.out hW)))
        clear hbr hy hb hat hx0 r0 r1 r2 r3 r4
        obtain ⟨r0, r1, r2, r3, r4, r5, -⟩ := HS.out w1 (Below.refl _ _)
        go_wp2_with fail
        go_region_held3 (fun W => W.cell? ⟨w.heap.size, 0, none⟩ = some (.int .i64 c.sites) ∧ W.cell? ⟨w.heap.size, 1, none⟩ = some (.slice va c.splits.length vc) ∧ W.cell? ⟨w.heap.size, 2, none⟩ = some (.int .i64 c.again) ∧ W.cell? ⟨w.heap.size, 3, none⟩ = some (.int .i64 c.over) ∧ W.cell? ⟨w.heap.size, 4, none⟩ = some (.slice (some ⟨b, off, none⟩) l.length ic) ∧ W.cell? ⟨b, off + i, none⟩ = some (.int .i64 x) ∧ Below w1.heap.size w1 W)
          (first | exact HS.out _ (Below.refl _ _).drew | exact HS.out _ (nxt (Below.refl w1.heap.size w1).drew hb2))
          (first | (go_at_call 9; refine (HRF.out x _ (Below.refl w1.heap.size w1).drew).mono ?_; rintro e W2 ⟨rfl, hb2⟩))
        have hb12 := nxt (Below.refl w1.heap.size w1).drew hb2
        obtain ⟨q0, q1, q2, q3, q4, q5, -⟩ := HS.out W2 hb12
        have HS2 := hidM (show ∀ W, Below W2.heap.size W2 W → W.cell? ⟨w.heap.size, 0, none⟩ = some (.int .i64 c.sites) ∧ W.cell? ⟨w.heap.size, 1, none⟩ = some (.slice va c.splits.length vc) ∧ W.cell? ⟨w.heap.size, 2, none⟩ = some (.int .i64 c.again) ∧ W.cell? ⟨w.heap.size, 3, none⟩ = some (.int .i64 c.over) ∧ W.cell? ⟨w.heap.size, 4, none⟩ = some (.slice (some ⟨b, off, none⟩) l.length ic) ∧ W.cell? ⟨b, off + i, none⟩ = some (.int .i64 x) ∧ Below W2.heap.size W2 W from fun W hW => by
          obtain ⟨p0, p1, p2, p3, p4, p5, -⟩ := HS.out W (nxt hb12 hW)
          exact ⟨p0, p1, p2, p3, p4, p5, hW⟩)
        have HB12 := hidM hb12
        clear hb2 hb12 r0 r1 r2 r3 r4 r5
        rw [findRes_bad HOK.out] at HFD
        go_wp2_with fail
        go_region_held3 (fun W => W.cell? ⟨w.heap.size, 0, none⟩ = some (.int .i64 c.sites) ∧ W.cell? ⟨w.heap.size, 1, none⟩ = some (.slice va c.splits.length vc) ∧ W.cell? ⟨w.heap.size, 2, none⟩ = some (.int .i64 c.again) ∧ W.cell? ⟨w.heap.size, 3, none⟩ = some (.int .i64 c.over) ∧ W.cell? ⟨w.heap.size, 4, none⟩ = some (.slice (some ⟨b, off, none⟩) l.length ic) ∧ W.cell? ⟨b, off + i, none⟩ = some (.int .i64 x) ∧ Below W2.heap.size W2 W)
          (first
            | exact HS2.out _ (Below.refl _ _).drew
            | exact HS2.out _ ((Below.refl W2.heap.size W2).drew.alloc (Nat.le_refl _) _)
            | exact HS2.out _ hb23
            | exact HS2.out _ (hb23.alloc hb23.size _)
            | exact HS2.out _ (((hb23.setCell (p := ⟨_, 0, none⟩) (Nat.le_refl _) _).setCell (p := ⟨_, 1, none⟩) (Nat.le_refl _) _).setCell (p := ⟨_, 2, none⟩) (Nat.le_refl _) _))
          (first
            | (go_at_call 10; refine (HFD.out ((W2.drew).alloc (.cells #[.int .i64 0, .string ⟨#[]⟩, .slice none 0 0] 35)) (nxt HB12.out ((Below.refl W2.heap.size W2).drew.alloc (Nat.le_refl _) _))).mono ?_; rintro e W3 ⟨⟨v3, rfl, ho3⟩, hb3⟩; obtain ⟨a3, n3, rfl⟩ := id ho3.shape; have hb23 := nxt ((Below.refl W2.heap.size W2).drew.alloc (Nat.le_refl _) (.cells #[.int .i64 0, .string ⟨#[]⟩, .slice none 0 0] 35)) hb3; have BZ : BlkP W3 W2.heap.size (.int .i64 0) (.string ⟨#[]⟩) (.slice none 0 0) := (BlkP.new W2.drew (.int .i64 0) (.string ⟨#[]⟩) (.slice none 0 0)).below hb3; obtain ⟨z0, z1, z2⟩ := BZ.cells; have k0 := BZ.free 0; have k1 := BZ.free 1; have k2 := BZ.free 2; have HBZ := hidM BZ; have HO3 := hidM ho3; clear BZ ho3)
            | (go_at_call 10; refine (HFD.out (W2.drew) (nxt HB12.out (Below.refl W2.heap.size W2).drew)).mono ?_; rintro e W3 ⟨⟨v3, rfl, ho3⟩, hb3⟩; obtain ⟨a3, n3, rfl⟩ := id ho3.shape; have hb23 := nxt (Below.refl W2.heap.size W2).drew hb3; have HO3 := hidM ho3; clear ho3))
        all_goals first
          | (
              obtain ⟨W4, hW4⟩ : ∃ W4 : World, W4 = W3.alloc (.cells #[.int .i64 0, .string ⟨#[]⟩, .slice a3 0 n3] 35) := ⟨_, rfl⟩
              have BP : BlkP W4 W3.heap.size (.int .i64 0) (.string ⟨#[]⟩) (.slice a3 0 n3) := by rw [hW4]; exact BlkP.new W3 _ _ _
              have hb34 : Below W3.heap.size W3 W4 := by rw [hW4]; exact (Below.refl _ _).alloc (Nat.le_refl _) _
              have hb24 := nxt hb23 hb34
              have HO4 : Hid (OwnN W4 W2.heap.size (.slice a3 0 n3) []) := OwnN.below HO3.out hb34
              have hge : W2.heap.size ≤ W3.heap.size := hb23.size
              rw [← hW4]
              generalize W3.heap.size = B6 at BP hge ⊢)
          | (
              obtain ⟨W4, hW4⟩ : ∃ W4 : World, W4 = ((W3.setCell ⟨W2.heap.size, 0, none⟩ (.int .i64 0)).setCell ⟨W2.heap.size, 1, none⟩ (.string ⟨#[]⟩)).setCell ⟨W2.heap.size, 2, none⟩ (.slice a3 0 n3) := ⟨_, rfl⟩
              have BP : BlkP W4 W2.heap.size (.int .i64 0) (.string ⟨#[]⟩) (.slice a3 0 n3) := by rw [hW4]; exact HBZ.out.put _ _ _
              have hb24 : Below W2.heap.size W2 W4 := by rw [hW4]; exact ((hb23.setCell (p := ⟨_, 0, none⟩) (Nat.le_refl _) _).setCell (p := ⟨_, 1, none⟩) (Nat.le_refl _) _).setCell (p := ⟨_, 2, none⟩) (Nat.le_refl _) _
              have HO4 : Hid (OwnN W4 W2.heap.size (.slice a3 0 n3) []) := by
                rw [hW4]
                exact (ownN_set (ownN_set (ownN_set HO3.out (by simp) _) (by simp) _) (by simp) _).lower (by simp)
              have hge : W2.heap.size ≤ W2.heap.size := Nat.le_refl _
              rw [← hW4]
              obtain ⟨B6, hB6⟩ : ∃ B6, B6 = W2.heap.size := ⟨_, rfl⟩
              rw [← hB6] at BP ⊢
              clear hB6)
        all_goals
          obtain ⟨W9, hW9⟩ : ∃ W9 : World, W9 = W4.alloc (.cells #[.int .i64 0, .string ⟨#[]⟩, .slice none 0 0] 35) := ⟨_, rfl⟩
          have hb49 : Below W4.heap.size W4 W9 := by rw [hW9]; exact (Below.refl _ _).alloc (Nat.le_refl _) _
          have BW : BlkP W9 W4.heap.size (.int .i64 0) (.string ⟨#[]⟩) (.slice none 0 0) := by rw [hW9]; exact BlkP.new W4 _ _ _
          have HBP := hidM BP
          obtain ⟨y0, y1, y2⟩ := (BP.below hb49).cells
          obtain ⟨v0, v1, v2⟩ := BW.cells
          have HEQ := hidM (eqsplit_any 0 ⟨#[]⟩ [] a3 none n3 0 W9 ((NS.own HO4.out).below hb49) ⟨none, 0, rfl, .inl rfl⟩ (by simp))
          have HB24 := hidM hb24
          have HW9 := hidM hW9.symm
          clear BP BW hb24 hW9 hW4
          go_wp2_with (first
            | (go_at_call 7; (try rw [HW9.out]); refine (HN.out _ _).mono ?_; rintro e W6 ⟨rfl, hw6⟩; subst W6)
            | (go_at_call 11; refine HEQ.out.mono ?_; rintro e W7 ⟨rfl, hb7⟩; have hb47 := nxt hb49 hb7; obtain ⟨s0, s1, s2⟩ := (HBP.out.below hb47).cells; have HWI := hidM (wipeNums_any W2.heap.size (.slice a3 0 n3) [] W7 (OwnN.below HO4.out hb47) (by simp) (nxt HB24.out hb47).size))
            | (go_at_call 12; refine HWI.out.mono ?_; rintro e W8 ⟨rfl, hb8⟩))
          have HB7 := hidM ((nxt HB24.out hb47).trans hb8)
          clear hb8 hb47 hb49 HWI HEQ HBP HO4 HB24 HW9 y0 y1 y2 v0 v1 v2 s0 s1 s2 q0 q1 q2 q3 q4 q5 hb23 hge
          go_wp2
          go_loopw [10] (fun jv wr => ∃ j : Int, jv = .int .i64 j ∧ -1 ≤ j ∧ j ≤ 5 ∧ Below W2.heap.size W2 wr) (fun jv _ => (5 - intOf jv).toNat)
          case atStart => exact ⟨-1, rfl, by omega, by omega, HB7.out⟩
          case round =>
            clear HB7
            rename World => w3
            obtain ⟨j, rfl, hj1, hj5, hbr⟩ := hrel
            have HBR3 := hidM hbr
            obtain ⟨r0, r1, r2, r3, r4, r5, -⟩ := HS2.out w3 hbr
            by_cases hj4 : j ≤ 4
            · have HS3 := hidM (show ∀ W, Below w3.heap.size w3 W → W.cell? ⟨w.heap.size, 0, none⟩ = some (.int .i64 c.sites) ∧ W.cell? ⟨w.heap.size, 1, none⟩ = some (.slice va c.splits.length vc) ∧ W.cell? ⟨w.heap.size, 2, none⟩ = some (.int .i64 c.again) ∧ W.cell? ⟨w.heap.size, 3, none⟩ = some (.int .i64 c.over) ∧ W.cell? ⟨w.heap.size, 4, none⟩ = some (.slice (some ⟨b, off, none⟩) l.length ic) ∧ W.cell? ⟨b, off + i, none⟩ = some (.int .i64 x) ∧ Below w3.heap.size w3 W from fun W hW => by
                obtain ⟨p0, p1, p2, p3, p4, p5, -⟩ := HS2.out W (nxt HBR3.out hW)
                exact ⟨p0, p1, p2, p3, p4, p5, hW⟩)
              have HNX := hidM (fun W (hW : Below w3.heap.size w3 W) => next12_any c _ x j W (HIN.out W (nxt HBR.out (nxt HB12.out (nxt HBR3.out hW)))))
              have HNM := hidM (fun W => isNum_any j c.sites W)
              clear hbr
              rw [nextRes_bad HOK.out] at HNX
              go_wp2_with fail
              go_region_held3 (fun W => W.cell? ⟨w.heap.size, 0, none⟩ = some (.int .i64 c.sites) ∧ W.cell? ⟨w.heap.size, 1, none⟩ = some (.slice va c.splits.length vc) ∧ W.cell? ⟨w.heap.size, 2, none⟩ = some (.int .i64 c.again) ∧ W.cell? ⟨w.heap.size, 3, none⟩ = some (.int .i64 c.over) ∧ W.cell? ⟨w.heap.size, 4, none⟩ = some (.slice (some ⟨b, off, none⟩) l.length ic) ∧ W.cell? ⟨b, off + i, none⟩ = some (.int .i64 x) ∧ Below w3.heap.size w3 W)
                (first | exact HS3.out _ (Below.refl _ _).drew | exact HS3.out _ (nxt (Below.refl w3.heap.size w3).drew hb5))
                (first | (go_at_call 13; refine (HNX.out _ (Below.refl w3.heap.size w3).drew).mono ?_; rintro e W5 ⟨rfl, hb5⟩))
              have hb35 := nxt (Below.refl w3.heap.size w3).drew hb5
              obtain ⟨g0, g1, g2, g3, g4, g5, -⟩ := HS3.out W5 hb35
              clear hb5
              go_wp2_with (first
                | (go_at_call 14; refine (HNM.out _).mono ?_; rintro e W6 ⟨rfl, hw6⟩; subst W6)
                | (go_at_call 7; refine (HN.out _ _).mono ?_; rintro e W6 ⟨rfl, hw6⟩; subst W6))
              go_roundw
              case rel => exact ⟨j + 1, by go_num, by omega, by omega, nxt HBR3.out (hb35)⟩
              case measure => simp [intOf]; omega
            · have hj4' : ¬ j ≤ 4 := hj4
              clear hbr
              have HS3 := hidM (show ∀ W, Below w3.heap.size w3 W → W.cell? ⟨w.heap.size, 0, none⟩ = some (.int .i64 c.sites) ∧ W.cell? ⟨w.heap.size, 1, none⟩ = some (.slice va c.splits.length vc) ∧ W.cell? ⟨w.heap.size, 2, none⟩ = some (.int .i64 c.again) ∧ W.cell? ⟨w.heap.size, 3, none⟩ = some (.int .i64 c.over) ∧ W.cell? ⟨w.heap.size, 4, none⟩ = some (.slice (some ⟨b, off, none⟩) l.length ic) ∧ W.cell? ⟨b, off + i, none⟩ = some (.int .i64 x) ∧ Below w3.heap.size w3 W from fun W hW => by
                obtain ⟨p0, p1, p2, p3, p4, p5, -⟩ := HS2.out W (nxt HBR3.out hW)
                exact ⟨p0, p1, p2, p3, p4, p5, hW⟩)
              obtain ⟨n, hn⟩ : ∃ n, n = i + 1 := ⟨_, rfl⟩
              have HRC := hidM (fun W (hW : Below w3.heap.size w3 W) => recs12_any c _ _ (l.take n) W (HIN.out W (nxt HBR.out (nxt HB12.out (nxt HBR3.out hW)))) (NS.take (HNSL.out W (nxt HB12.out (nxt HBR3.out hW))) n (by omega) ic) (by rw [List.length_take]; omega))
              have hwi : IntKind.i64.wrap ((i : Int) + 1) = (n : Int) := by rw [IntKind.wrap_i64]; omega
              have hn0 : (0 : Int) ≤ (n : Int) := by omega
              have hn1 : (n : Int) ≤ (ic : Int) := by omega
              have hn2 : n ≤ ic := by omega
              have HNI := hidM hn
              clear hn
              unfold recsRes at HRC
              rw [HOK.out] at HRC
              go_wp2_with fail
              go_region_held3 (fun W => W.cell? ⟨w.heap.size, 0, none⟩ = some (.int .i64 c.sites) ∧ W.cell? ⟨w.heap.size, 1, none⟩ = some (.slice va c.splits.length vc) ∧ W.cell? ⟨w.heap.size, 2, none⟩ = some (.int .i64 c.again) ∧ W.cell? ⟨w.heap.size, 3, none⟩ = some (.int .i64 c.over) ∧ W.cell? ⟨w.heap.size, 4, none⟩ = some (.slice (some ⟨b, off, none⟩) l.length ic) ∧ W.cell? ⟨b, off + i, none⟩ = some (.int .i64 x) ∧ Below w3.heap.size w3 W)
                (first | exact HS3.out _ (Below.refl _ _).drew | exact HS3.out _ (nxt (Below.refl w3.heap.size w3).drew hb5))
                (first | (go_at_call 16; refine (HRC.out _ (Below.refl w3.heap.size w3).drew).mono ?_; rintro e W5 ⟨⟨v5, rfl, ho5⟩, hb5⟩; obtain ⟨a5, n5, rfl⟩ := id ho5.shape; have HO5 := hidM ho5; clear ho5))
              have hb35 := nxt (Below.refl w3.heap.size w3).drew hb5
              have HB35 := hidM hb35
              have HALL5 := hidM (nxt HBR.out (nxt HB12.out (nxt HBR3.out hb35)))
              obtain ⟨g0, g1, g2, g3, g4, g5, -⟩ := HS3.out W5 hb35
              clear hb5 hb35
              have HEQ := hidM (eqrecs_any _ (.slice none 0 0) [] W5 (RS.own HO5.out) ⟨none, 0, rfl, .inl rfl⟩ (by simp))
              go_wp2_with (first
                | (go_at_call 7; refine (HN.out _ _).mono ?_; rintro e W6 ⟨rfl, hw6⟩; subst W6)
                | (go_at_call 18; refine HEQ.out.mono ?_; rintro e W7 ⟨rfl, hd7⟩; have hb7 := hd7.below W5.heap.size; obtain ⟨s0, s1, s2, s3, s4⟩ := HF.out W7 (nxt HALL5.out hb7); have HC7 := hidM (HCK.out W7 (nxt HALL5.out hb7)))
                | (go_at_call 8; refine HC7.out.mono ?_; rintro e W8 ⟨rfl, hb8⟩))
              go_roundw
              case rel => exact ⟨n, by go_num, by have := HNI.out; omega, by have := HNI.out; omega, nxt HALL5.out (nxt hb7 hb8)⟩
              case measure => have := HNI.out; simp [intOf]; omega
      · have hii : (i : Int) < (l.length : Int) := by omega
        have hii6 : ¬ (i : Int) < 12 := by omega
        have HK1 := hidM (HK.out w1)
        go_wp2_with (go_at_call 19; refine HK1.out.mono ?_; rintro e W8 ⟨rfl, hb8⟩)
        go_ret
        exact ⟨rfl, nxt HB.out (nxt HBR.out hb8)⟩
    · have hii : ¬ (i : Int) < (l.length : Int) := by omega
      have HK1 := hidM (HK.out w1)
      go_wp2_with (go_at_call 19; refine HK1.out.mono ?_; rintro e W8 ⟨rfl, hb8⟩)
      go_ret
      exact ⟨rfl, nxt HB.out (nxt HBR.out hb8)⟩
end Go.Proofs.Ytdejdcibcihfeaa
