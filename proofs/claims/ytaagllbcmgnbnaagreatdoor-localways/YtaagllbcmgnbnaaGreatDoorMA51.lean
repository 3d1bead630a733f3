/- thresherlaw13.LocalRuns: its walk. -/
import Derived.Test.YtaagllbcmgnbnaaGreatDoorMA46
import Derived.Test.YtaagllbcmgnbnaaGreatDoorMA49
import Derived.Test.YtaagllbcmgnbnaaGreatDoorMA50
namespace Go.Proofs.YtaagllbcmgnbnaaGreatDoor
open Go.RowKit
set_option linter.unusedVariables false
set_option maxRecDepth 100000

theorem OwnR.capM {w : World} {base : Nat} {v : Value} {l : List Rc} (h : OwnR w base v l) : ∃ a c, v = .slice a l.length c ∧ l.length ≤ c := by
  rcases h.2 with ⟨rfl, h0⟩ | ⟨g, cap, cur, rfl, _, _, hn, _⟩
  · exact ⟨none, 0, by rw [h0], by omega⟩
  · exact ⟨_, cap, rfl, hn⟩
theorem OwnRs.slice {w : World} {base : Nat} {v : Value} {L : List (List Rw)} (h : OwnRs w base v L) : ∃ a c, v = .slice a L.length c := by
  obtain ⟨a, c, e, -⟩ := h.rns
  exact ⟨a, c, e⟩
theorem RnS.slice {w : World} {v : Value} {L : List (List Rw)} (h : RnS w v L) : ∃ a c, v = .slice a L.length c := by
  obtain ⟨a, c, e, -⟩ := h
  exact ⟨a, c, e⟩
theorem runsRes_no {agg bound size : Int} {l : List Rc} (h : (decide (1 ≤ size) && mayFo agg bound l) = false) : runsRes agg bound size l = ([], 1) := by unfold runsRes; rw [h]; rfl
theorem runsRes_yes {agg bound size : Int} {l : List Rc} (h : 1 ≤ size) (hm : mayFo agg bound l = true) : runsRes agg bound size l = runsG agg bound.toNat (cutsM size.toNat l) := by unfold runsRes; rw [decide_eq_true h, hm]; rfl
theorem runsG_small {agg bound : Int} {n : Nat} {l : List Rc} (hn : 1 ≤ n) (hw : wayC agg bound = true) (hwf : Wf l) (hl : l.length ≤ 100000) : (runsG agg bound.toNat (cutsM n l)).1.length ≤ 100000 ∧ ∀ r ∈ (runsG agg bound.toNat (cutsM n l)).1, r.length ≤ 100000 ∧ ∀ y ∈ r, y.2.2.length ≤ 100000 := by
  unfold runsG
  split
  · refine ⟨?_, fun r hr => ?_⟩
    · simp only [rowsC, List.length_map, cutsM, cutTo_len]
      have := cutN_len (l := l) hn
      omega
    · simp only [rowsC, cutsM, cutTo, List.mem_map] at hr
      obtain ⟨c, ⟨q, -, rfl⟩, rfl⟩ := hr
      have hwc : Wf ((l.drop (q * n)).take n) := fun x hx => hwf x (List.mem_of_mem_drop (List.mem_of_mem_take hx))
      refine ⟨?_, fun y hy => ?_⟩
      · have h1 := len_fold agg bound.toNat ((l.drop (q * n)).take n)
        have h2 : ((l.drop (q * n)).take n).length ≤ l.length := by simp; omega
        omega
      · have h1 := mem_look (fold_rise agg bound.toNat _) hy
        have := (okC_fold (agg := agg) (bound := bound) _ hw hwc _ _ h1).2.2
        omega
  · simp
set_option maxHeartbeats 8000000 in
theorem lawlr (agg bound : Int) (vl vv : Value) (x : ByteArray) (L : List (List Rw)) (l : List Rc) (w : World) (h : In10 w agg bound vl vv x L l) (hE : Env w) (hH : Halves w) :
    Calls Tryz.prog 3 #[askV agg bound vl vv x] w (BoolR w true) := by
  have hb0 := (Below.refl w.heap.size w).alloc (Nat.le_refl _) (askO agg bound vl vv x)
  have hA := BlkA.new w agg bound vl vv x
  obtain ⟨W0, hW0⟩ : ∃ W0 : World, W0 = w.alloc (askO agg bound vl vv x) := ⟨_, rfl⟩
  rw [← hW0] at hb0 hA
  have h0 := h.below hb0
  have H1 := hidM (heavy_any agg bound vl vv x L l W0 h0)
  obtain ⟨va, vc, rfl, hvc, hvc2⟩ := h.hLcap
  obtain ⟨ra, rc, rfl, hrc, -⟩ := h.hcap
  have HENV := hidM (show ∀ W, Below W0.heap.size W0 W → Env W from fun W hW => (hE.low hb0).low hW)
  have HHAL := hidM (show ∀ W, Below W0.heap.size W0 W → Halves W from fun W hW => (hH.below hb0 hH.pos).below hW (hH.below hb0 hH.pos).pos)
  have HR := hidM (show ∀ W, Below W0.heap.size W0 W → LLS W (.slice va L.length vc) L from fun W hW => h0.hL.1.below hW)
  have HRC := hidM (show ∀ W, Below W0.heap.size W0 W → RS W (.slice ra l.length rc) l from fun W hW => h0.hl.1.below hW)
  have HWF := hidM (show ∀ r ∈ L, WfRs r from fun r hr => (h.hL.2.2 r hr).2)
  have HWL := hidM (show Wf l from h.hl.2.2)
  have HA := hidM (show ∀ W, Below W0.heap.size W0 W → W.cell? ⟨w.heap.size, 0, none⟩ = some (.int .i64 agg) ∧ W.cell? ⟨w.heap.size, 1, none⟩ = some (.int .i64 bound) ∧ W.cell? ⟨w.heap.size, 2, none⟩ = some (.slice va L.length vc) ∧ W.cell? ⟨w.heap.size, 3, none⟩ = some (.slice ra l.length rc) ∧ W.cell? ⟨w.heap.size, 4, none⟩ = some (.string x) from fun W hW => (hA.below hW).cells)
  obtain ⟨a0, a1, a2, a3, a4⟩ := HA.out W0 (Below.refl _ _)
  have HS := hidM (show ∀ W, Below W0.heap.size W0 W → W.cell? ⟨w.heap.size, 0, none⟩ = some (.int .i64 agg) ∧ W.cell? ⟨w.heap.size, 1, none⟩ = some (.int .i64 bound) ∧ W.cell? ⟨w.heap.size, 2, none⟩ = some (.slice va L.length vc) ∧ Below W0.heap.size W0 W from fun W hW => ⟨(hA.below hW).cells.1, (hA.below hW).cells.2.1, (hA.below hW).cells.2.2.1, hW⟩)
  have HS3 := hidM (show ∀ W, Below W0.heap.size W0 W → W.cell? ⟨w.heap.size, 0, none⟩ = some (.int .i64 agg) ∧ W.cell? ⟨w.heap.size, 1, none⟩ = some (.int .i64 bound) ∧ W.cell? ⟨w.heap.size, 3, none⟩ = some (.slice ra l.length rc) ∧ Below W0.heap.size W0 W from fun W hW => ⟨(hA.below hW).cells.1, (hA.below hW).cells.2.1, (hA.below hW).cells.2.2.2.1, hW⟩)
  have HW := hidM hW0.symm
  have HB := hidM hb0
  have HN := hidM num13_any
  have HK := hidM wakes13_any
  have HRCL := hidM hrc
  clear h h0 hb0 hA hW0 hE hH
  go_enter Tryz.func3, Tryz.ntmps3
  go_wp2_with fail
  rw [HW.out]
  refine H1.out.mono ?_
  rintro e W1 ⟨⟨hv, rfl, hsm⟩, hb1⟩
  cases hv with
  | true =>
    go_wp2
    go_ret
    exact ⟨rfl, nxt HB.out hb1⟩
  | false =>
    obtain ⟨hLs, hrs, hll, hlk⟩ := hsm rfl
    have HRS := hidM hrs
    have HLL := hidM hll
    have HB1 := hidM hb1
    clear hsm hrs a0 a1 a2 a3 a4 H1 hb1
    go_wp2
    go_loopw [3] (fun i wr => ∃ s : Int, i = .int .i64 s ∧ -1 ≤ s ∧ s ≤ 5 ∧ Below W0.heap.size W0 wr) (fun i _ => (6 - intOf i).toNat)
    case atStart => exact ⟨-1, rfl, by omega, by omega, HB1.out⟩
    case round =>
      clear HB1
      rename World => w1
      obtain ⟨s, rfl, hs1, hs5, hbr0⟩ := hrel
      have HBR0 := hidM hbr0
      obtain ⟨r0, r1, r2, r3, r4⟩ := HA.out w1 hbr0
      clear hbr0
      by_cases hs : s < 5
      · have hsi : s < 5 := hs
        have hl5 : l.length ≤ 100000 := by have := HLL.out; omega
        obtain ⟨R, hR⟩ : ∃ R, R = runsRes agg bound s l := ⟨_, rfl⟩
        have H2 := hidM (fun W (hW : Below W0.heap.size W0 W) => copyRecs_any (.slice ra l.length rc) l W (HRC.out W hW) hl5)
        have H3 := hidM (fun (W : World) (a2 : Option Addr) (c2 : Nat) (hn : RS W (.slice a2 l.length c2) l) (hc : l.length ≤ c2) => lruns_any agg bound s a2 c2 l W hn hc HWL.out hl5 ⟨by omega, by omega⟩)
        rw [← hR] at H3
        have H4 := hidM (fun W (hW : Below W0.heap.size W0 W) => mayFold_any agg bound (.slice ra l.length rc) l W (HRC.out W hW) hl5)
        have hno := fun hh => hR.trans (runsRes_no (agg := agg) (bound := bound) (size := s) (l := l) hh)
        have hyes := fun hh hm => hR.trans (runsRes_yes (agg := agg) (bound := bound) (size := s) (l := l) hh hm)
        clear hR
        have HKEEP := hidM (fun (W W' : World) (hn : W.cell? ⟨w.heap.size, 0, none⟩ = some (.int .i64 agg) ∧ W.cell? ⟨w.heap.size, 1, none⟩ = some (.int .i64 bound) ∧ W.cell? ⟨w.heap.size, 3, none⟩ = some (.slice ra l.length rc) ∧ Below W0.heap.size W0 W) (hb : Below W.heap.size W W') => HS3.out W' (nxt hn.2.2.2 hb))
        go_wp2
        go_region_held3 (fun W => W.cell? ⟨w.heap.size, 0, none⟩ = some (.int .i64 agg) ∧ W.cell? ⟨w.heap.size, 1, none⟩ = some (.int .i64 bound) ∧ W.cell? ⟨w.heap.size, 3, none⟩ = some (.slice ra l.length rc) ∧ Below W0.heap.size W0 W)
          (first | exact HKEEP.out _ _ (by assumption) (by assumption) | exact HS3.out _ HBR0.out.drew)
          (first
            | (go_at_call 11; refine (H2.out _ (by first | exact (‹_ ∧ _ ∧ _ ∧ Below W0.heap.size W0 _›).2.2.2 | exact HBR0.out.drew)).mono ?_; rintro e W2 ⟨v2, rfl, ho2, hb2⟩; obtain ⟨a2, c2, rfl, hc2⟩ := ho2.capM; have hn2 := RS.own ho2)
            | (go_at_call 10; refine (H3.out _ a2 c2 hn2 hc2).mono ?_; rintro e W3 ⟨⟨v3, rfl, hrn⟩, hb3⟩; obtain ⟨a3, c3, rfl⟩ := hrn.slice))
        all_goals obtain ⟨x0, x1, x3, hbX⟩ := ‹_ ∧ _ ∧ _ ∧ Below W0.heap.size W0 _›
        all_goals obtain ⟨y0, y1, y2, y3, y4⟩ := HA.out _ hbX
        by_cases h1 : 1 ≤ s
        · have hd1 : decide (1 ≤ s) = true := decide_eq_true h1
          have hd1n : ¬ s < 1 := by omega
          cases hm : mayFo agg bound l with
          | true =>
            have hw : wayC agg bound = true := by
              unfold mayFo at hm
              rw [Bool.and_eq_true, Bool.and_eq_true] at hm
              exact hm.1.1
            obtain ⟨sn, hsn⟩ : ∃ sn : Nat, s = (sn : Int) := ⟨s.toNat, by omega⟩
            have hY := hyes h1 hm
            have H6 := hidM (fun W (hW : Below W0.heap.size W0 W) => rruns_any agg bound sn ra rc l W (HRC.out W hW) HRCL.out HWL.out hl5 hw (by omega) (by omega))
            rw [show s.toNat = sn by omega] at hY
            have HRL := hidM (runsG_small (agg := agg) (bound := bound) (n := sn) (l := l) (by omega) hw HWL.out hl5)
            rw [← hY] at H6 HRL
            rw [← hsn] at H6
            unfold mayFo at hm
            rw [hm] at H4
            clear hY hno hyes hm hsn hw
            obtain ⟨R1, R2⟩ := R
            simp only at H3 H6 HRL hrn
            have hRn := hidM hrn
            clear hrn
            go_wp2_with (first
              | (go_at_call 12; refine (H4.out _ hbX).mono ?_; rintro e W4 ⟨rfl, hb4⟩; have hb04 := nxt hbX hb4; obtain ⟨c0, c1, c2', c3, c4'⟩ := HA.out W4 hb04)
              | (go_at_call 13; refine (H6.out _ hb04).mono ?_; rintro e W5 ⟨⟨v5, rfl, ho5⟩, hb5⟩; obtain ⟨a5, k5, rfl⟩ := ho5.slice; have H7 := hidM (eqRuns_any _ _ R1 W5 (hRn.out.below (nxt hb4 hb5)) ho5.rns HRL.out.1 HRL.out.2); clear ho5)
              | (go_at_call 14; refine (HN.out _ _).mono ?_; rintro e W6 ⟨rfl, rfl⟩)
              | (go_at_call 15; refine H7.out.mono ?_; clear H7; rintro e W7 ⟨rfl, hb7⟩))
            go_roundw
            case rel => exact ⟨s + 1, by go_num, by omega, by omega, nxt hb04 (nxt hb5 hb7)⟩
            case measure => simp [intOf]; omega
          | false =>
            have hY := hno (by rw [hm, Bool.and_false])
            unfold mayFo at hm
            rw [hm] at H4
            subst hY
            clear hno hyes hm
            simp only at H3 hrn
            have hRn := hidM hrn
            clear hrn
            go_wp2_with (first
              | (go_at_call 12; refine (H4.out _ hbX).mono ?_; rintro e W4 ⟨rfl, hb4⟩; have hb04 := nxt hbX hb4; obtain ⟨c0, c1, c2', c3, c4'⟩ := HA.out W4 hb04; have H7 := hidM (eqRuns_any _ (.slice none 0 0) [] W4 (hRn.out.below hb4) ⟨none, 0, rfl, .inl rfl⟩ (by simp) (by simp)))
              | (go_at_call 14; refine (HN.out _ _).mono ?_; rintro e W6 ⟨rfl, rfl⟩)
              | (go_at_call 15; refine H7.out.mono ?_; clear H7; rintro e W7 ⟨rfl, hb7⟩))
            go_roundw
            case rel => exact ⟨s + 1, by go_num, by omega, by omega, nxt hb04 hb7⟩
            case measure => simp [intOf]; omega
        · have hd1 : decide (1 ≤ s) = false := decide_eq_false h1
          have hd1n : s < 1 := by omega
          have hY := hno (by rw [decide_eq_false h1, Bool.false_and])
          subst hY
          clear hno hyes
          simp only at H3 hrn
          have hRn := hidM hrn
          clear hrn
          have H7 := hidM (eqRuns_any _ (.slice none 0 0) [] _ hRn.out ⟨none, 0, rfl, .inl rfl⟩ (by simp) (by simp))
          go_wp2_with (first
            | (go_at_call 14; refine (HN.out _ _).mono ?_; rintro e W6 ⟨rfl, rfl⟩)
            | (go_at_call 15; refine H7.out.mono ?_; clear H7; rintro e W7 ⟨rfl, hb7⟩))
          go_roundw
          case rel => exact ⟨s + 1, by go_num, by omega, by omega, nxt hbX hb7⟩
          case measure => simp [intOf]; omega
      · have hsd : ¬ s < 5 := hs
        clear hs1 hs5 hs
        go_wp2
        go_loopw [8] (fun i wr => ∃ n : Nat, i = .int .i64 n ∧ n ≤ L.length + 1 ∧ n ≤ 6 ∧ Below W0.heap.size W0 wr) (fun i _ => 7 - (intOf i).toNat)
        case atStart => exact ⟨0, rfl, by omega, by omega, HBR0.out⟩
        case round =>
          clear HBR0
          rename World => w1
          obtain ⟨n, rfl, hn1, hn6, hbr⟩ := hrel
          have HBR := hidM hbr
          obtain ⟨r0, r1, r2, r3, r4⟩ := HA.out w1 hbr
          clear hbr
          by_cases hnl : n ≤ L.length
          · by_cases hn5 : n < 6
            · have hnl' : (n : Int) ≤ (L.length : Int) := by omega
              have hn5' : (n : Int) < 6 := by omega
              have hnv : (n : Int) ≤ (vc : Int) := by omega
              have hnv' : n ≤ vc := by omega
              have hn0 : (0 : Int) ≤ (n : Int) := by omega
              obtain ⟨M, hM⟩ : ∃ M, M = L.take n := ⟨_, rfl⟩
              have hMl : M.length = n := by rw [hM, List.length_take]; omega
              have HML := hidM hMl
              have HMM := hidM (show ∀ r ∈ M, r ∈ L from fun r hr => by rw [hM] at hr; exact List.mem_of_mem_take hr)
              have HMW := hidM (show ∀ r ∈ M, WfRs r from fun r hr => HWF.out r (HMM.out r hr))
              have HMS := hidM (show ∀ r ∈ M, r.length ≤ 100000 ∧ ∀ y ∈ r, y.2.2.length ≤ 100000 from fun r hr => by
                obtain ⟨p1, p2⟩ := HRS.out r (HMM.out r hr)
                exact ⟨by omega, fun y hy => by have := p2 y hy; omega⟩)
              have HMF := hidM (show M.flatten.length ≤ 100000 from by
                have : M.flatten.length ≤ M.length * 6000 := by
                  clear HMS HMW hMl HML
                  have hs : ∀ r ∈ M, r.length ≤ 6000 := fun r hr => (HRS.out r (HMM.out r hr)).1
                  clear hM HMM
                  induction M with
                  | nil => simp
                  | cons a M ih =>
                    have h1 := hs a (by simp)
                    have h2 := ih (fun r hr => hs r (by simp [hr]))
                    rw [List.flatten_cons, List.length_append, List.length_cons]
                    omega
                omega)
              have HI := hidM (show ∀ W, Below W0.heap.size W0 W → RnS W (.slice va n vc) M from fun W hW => by rw [hM]; exact (HR.out W hW).take n hnl)
              obtain ⟨R, hR⟩ : ∃ R, R = joinRes agg bound M := ⟨_, rfl⟩
              have HRL := hidM (show R.1.length ≤ 100000 ∧ ∀ y ∈ R.1, y.2.2.length ≤ 100000 from by rw [hR]; exact joinRes_small HMW.out)
              have H2 := hidM (copyRuns_any (.slice va n vc) M w1 (HI.out w1 HBR.out) (by omega) HMS.out)
              have H3 := hidM (fun (W : World) (u : Value) (hu : RnS W u M) => lmerge_any agg bound u M W hu HMW.out (by omega) HMS.out)
              rw [← hR] at H3
              have H4 := hidM (fun W (hW : Below W0.heap.size W0 W) => rjoins_any agg bound (.slice va n vc) M W (HI.out W hW) HMW.out (by omega) (fun r hr => by
                obtain ⟨p1, p2⟩ := HRS.out r (HMM.out r hr)
                exact ⟨by omega, (HMS.out r hr).2⟩) HMF.out)
              rw [← hR] at H4
              clear hM hMl hR
              go_wp2_with (first
                | (go_at_call 16; refine H2.out.mono ?_; rintro e W2 ⟨⟨vi, rfl, hi⟩, hb2⟩; have hb2' := nxt HBR.out hb2; obtain ⟨b0, b1, b2, b3, b4⟩ := HA.out W2 hb2'; have HIN := hidM hi.rns; have H3b := hidM (H3.out W2 vi hi.rns); obtain ⟨ia, ic, rfl, -⟩ := hi.rns; have HHI := hidM hi; clear hi)
                | (go_at_call 17; refine H3b.out.mono ?_; rintro e W3 ⟨⟨vx, rfl, hox⟩, hb3⟩; have hb3' := nxt hb2' hb3; obtain ⟨c0, c1, c2, c3, c4⟩ := HA.out W3 hb3'; obtain ⟨xa, xc, rfl⟩ := id hox.slice; have HOX := hidM hox; clear hox))
              go_region_held3 (fun W => W.cell? ⟨w.heap.size, 0, none⟩ = some (.int .i64 agg) ∧ W.cell? ⟨w.heap.size, 1, none⟩ = some (.int .i64 bound) ∧ W.cell? ⟨w.heap.size, 2, none⟩ = some (.slice va L.length vc) ∧ Below W0.heap.size W0 W)
                (first | exact HS.out _ hb3'.drew | exact HS.out _ (nxt hb3'.drew hb4))
                (first | (go_at_call 18; refine (H4.out _ hb3'.drew).mono ?_; rintro e W4 ⟨⟨vw, rfl, how⟩, hb4⟩; obtain ⟨wa, wc, rfl⟩ := id how.slice; have HOW := hidM how; clear how))
              have hb34 := nxt (Below.refl W3.heap.size W3).drew hb4
              have hb04 := nxt hb3' hb34
              have hb24 := nxt hb3 hb34
              have HX4 := hidM (HOX.out.below hb34)
              have H5 := hidM (eqrows_any _ _ R.1 W4 HX4.out.ws HOW.out.ws HRL.out.1 HRL.out.2)
              clear hb4 hb34 hb3 hb3' c0 c1 c2 c3 c4 b0 b1 b2 b3 b4 H4 HOX HOW
              go_wp2_with (first
                | (go_at_call 14; refine (HN.out _ _).mono ?_; rintro e W4 ⟨rfl, rfl⟩)
                | (go_at_call 19; refine H5.out.mono ?_; clear H5; rintro e W5 ⟨rfl, hb5⟩; have hb05 := nxt hb04 hb5; have hb25 := nxt hb24 hb5; have HX5 := hidM (HX4.out.below hb5); obtain ⟨d0, d1, d2, d3, d4⟩ := HA.out W5 hb05; have H6 := hidM (eqRuns_any _ (.slice va n vc) M W5 (HIN.out.below hb25) (HI.out W5 hb05) (by have := HML.out; omega) HMS.out))
                | (go_at_call 15; refine H6.out.mono ?_; clear H6; rintro e W6 ⟨rfl, hb6⟩; have hb06 := nxt hb05 hb6; have hb26 := nxt hb25 hb6; have H7 := hidM (wipeRows_any W2.heap.size _ R.1 W6 (HX5.out.below hb6) HRL.out.1 HRL.out.2))
                | (go_at_call 20; refine H7.out.mono ?_; clear H7; rintro e W7 ⟨rfl, hb7⟩; have hb27 := hb26.trans hb7; have hb07 := nxt hb2' hb27; obtain ⟨e0, e1, e2, e3, e4⟩ := HA.out W7 hb07; have H8 := hidM (eqRuns_any _ (.slice va n vc) M W7 (HIN.out.below hb27) (HI.out W7 hb07) (by have := HML.out; omega) HMS.out))
                | (go_at_call 15; refine H8.out.mono ?_; clear H8; rintro e W8 ⟨rfl, hb8⟩; have hb08 := nxt hb07 hb8))
              have HB8 := hidM hb08
              clear e0 e1 e2 e3 e4 d0 d1 d2 d3 d4
              go_roundw
              case rel => exact ⟨n + 1, by go_num, by omega, by omega, HB8.out⟩
              case measure => simp [intOf]; omega
            · have hn5' : ¬ (n : Int) < 6 := by omega
              have hnl' : (n : Int) ≤ (L.length : Int) := by omega
              have HK2 := hidM (HK.out w1 (HENV.out _ HBR.out) (HHAL.out _ HBR.out))
              go_wp2_with (go_at_call 21; refine HK2.out.mono ?_; rintro e W8 ⟨rfl, hb8⟩)
              go_ret
              exact ⟨rfl, nxt HB.out (nxt HBR.out hb8)⟩
          · have hnl' : ¬ (n : Int) ≤ (L.length : Int) := by omega
            have HK2 := hidM (HK.out w1 (HENV.out _ HBR.out) (HHAL.out _ HBR.out))
            go_wp2_with (go_at_call 21; refine HK2.out.mono ?_; rintro e W8 ⟨rfl, hb8⟩)
            go_ret
            exact ⟨rfl, nxt HB.out (nxt HBR.out hb8)⟩
end Go.Proofs.YtaagllbcmgnbnaaGreatDoor
