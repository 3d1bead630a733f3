/- thresherlaw10.RowJoins: its walk. -/
import Derived.Test.YticpaemmdfmbfaaJ41
import Derived.Test.YticpaemmdfmbfaaJ44
import Derived.Test.YticpaemmdfmbfaaJ52
import Derived.Test.YticpaemmdfmbfaaJ54
import Derived.Deep.CutBlock
namespace Go.Proofs.Yticpaemmdfmbfaa
open Go.RowKit
set_option linter.unusedVariables false
set_option maxRecDepth 100000

theorem LLS.take {w : World} {a : Option Addr} {cap : Nat} {L : List (List Rw)} (h : LLS w (.slice a L.length cap) L) (n : Nat) (hn : n ≤ L.length) : RnS w (.slice a n cap) (L.take n) := by
  obtain ⟨a0, c0, e, h⟩ := h
  injection e with e1 e2 e3
  subst e1
  refine ⟨a, cap, by rw [List.length_take, Nat.min_eq_left hn], ?_⟩
  rcases h with rfl | ⟨b, off, rfl, hb, hat⟩
  · exact .inl (by simp)
  · refine .inr ⟨b, off, rfl, hb, fun i l hl => hat i l ?_⟩
    have hi := (List.getElem?_eq_some_iff.1 hl).1
    rw [List.length_take] at hi
    rwa [List.getElem?_take_of_lt (by omega)] at hl
theorem RnS.below {w w' : World} {v : Value} {L : List (List Rw)} (h : RnS w v L) (hb : Below w.heap.size w w') : RnS w' v L := by
  obtain ⟨a, cap, rfl, h⟩ := h
  refine ⟨a, cap, rfl, ?_⟩
  rcases h with h | ⟨b, off, rfl, hlt, h⟩
  · exact .inl h
  · exact .inr ⟨b, off, rfl, Nat.lt_of_lt_of_le hlt hb.size, RunsC.below (B := 0) h hb hlt⟩
theorem okRows_way {agg bound : Int} {l : List Rw} (h : wayC agg bound = false) : okRows agg bound l = false := by unfold okRows; rw [h, Bool.false_and]
set_option maxHeartbeats 800000 in
theorem lrows_any (agg bound : Int) (vl vv : Value) (x : ByteArray) (v : Value) (l : List Rw) (w : World) (h : WS w v l) (hl : l.length ≤ 100000) (hls : ∀ r ∈ l, r.2.2.length ≤ 100000) :
    Calls Try.prog 24 #[askV agg bound vl vv x, v] w (BoolR w (okRows agg bound l)) := by
  have hb0 := (Below.refl w.heap.size w).alloc (Nat.le_refl _) (askO agg bound vl vv x)
  have hA := BlkA.new w agg bound vl vv x
  obtain ⟨W0, hW0⟩ : ∃ W0 : World, W0 = w.alloc (askO agg bound vl vv x) := ⟨_, rfl⟩
  rw [← hW0] at hb0 hA
  have H1 := hidM (fun W => way_any agg bound W)
  obtain ⟨a0, a1, a2, a3, a4⟩ := hA.cells
  have HW := hidM hW0.symm
  have HB := hidM hb0
  have HS := hidM (h.below hb0)
  obtain ⟨va, vc, rfl, -⟩ := id h
  clear hW0 hA h hb0
  cases hw : wayC agg bound with
  | true =>
    rw [hw] at H1
    have HR := hidM (rrows_any agg bound _ l W0 HS.out hw hl hls)
    generalize okRows agg bound l = ok at HR ⊢
    go_enter Try.func24, Try.ntmps24
    go_wp2_with fail
    rw [HW.out]
    go_wp2_with (first
      | (go_at_call 36; refine (H1.out _).mono ?_; rintro e W0 ⟨rfl, rfl⟩)
      | (go_at_call 41; refine HR.out.mono ?_; rintro e W1 ⟨rfl, hb1⟩))
    go_ret
    exact ⟨rfl, nxt HB.out hb1⟩
  | false =>
    rw [hw] at H1
    rw [okRows_way hw]
    go_enter Try.func24, Try.ntmps24
    go_wp2_with fail
    rw [HW.out]
    go_wp2_with (go_at_call 36; refine (H1.out _).mono ?_; rintro e W0 ⟨rfl, rfl⟩)
    go_ret
    exact ⟨rfl, HB.out⟩
/-- What comes of runs is small. -/
theorem joinRes_small {agg bound : Int} {L : List (List Rw)} (hL : ∀ l ∈ L, WfRs l) : (joinRes agg bound L).1.length ≤ 100000 ∧ ∀ y ∈ (joinRes agg bound L).1, y.2.2.length ≤ 100000 := by
  unfold joinRes
  split
  · next h =>
    rw [Bool.and_eq_true, Bool.and_eq_true, List.all_eq_true, decide_eq_true_eq] at h
    obtain ⟨⟨hw, ho⟩, hl⟩ := h
    unfold fin
    split
    · refine ⟨by omega, fun y hy => ?_⟩
      have h1 := mem_look (rise_gat (joinC agg bound.toNat) L.flatten) hy
      have := okC_gat (agg := agg) (bound := bound) L.flatten (fun r hr => by
        obtain ⟨l, hl, hrl⟩ := List.mem_flatten.1 hr
        exact (runOk_of (ho l hl) (hL l hl)).cell r hrl) _ _ h1
      have := this.2.2
      omega
    · simp
  · simp
set_option maxHeartbeats 4000000 in
theorem lawwj (agg bound : Int) (vl vv : Value) (x : ByteArray) (L : List (List Rw)) (l : List Rc) (w : World) (h : In10 w agg bound vl vv x L l) :
    Calls Try.prog 4 #[askV agg bound vl vv x] w (BoolR w true) := by
  have hb0 := (Below.refl w.heap.size w).alloc (Nat.le_refl _) (askO agg bound vl vv x)
  have hA := BlkA.new w agg bound vl vv x
  obtain ⟨W0, hW0⟩ : ∃ W0 : World, W0 = w.alloc (askO agg bound vl vv x) := ⟨_, rfl⟩
  rw [← hW0] at hb0 hA
  have h0 := h.below hb0
  have H1 := hidM (heavy_any agg bound vl vv x L l W0 h0)
  obtain ⟨va, vc, rfl, hvc, hvc2⟩ := h.hLcap
  have HR := hidM (show ∀ W, Below W0.heap.size W0 W → LLS W (.slice va L.length vc) L from fun W hW => h0.hL.1.below hW)
  have HWF := hidM (show ∀ r ∈ L, WfRs r from fun r hr => (h.hL.2.2 r hr).2)
  have HA := hidM (show ∀ W, Below W0.heap.size W0 W → W.cell? ⟨w.heap.size, 0, none⟩ = some (.int .i64 agg) ∧ W.cell? ⟨w.heap.size, 1, none⟩ = some (.int .i64 bound) ∧ W.cell? ⟨w.heap.size, 2, none⟩ = some (.slice va L.length vc) ∧ W.cell? ⟨w.heap.size, 3, none⟩ = some vv ∧ W.cell? ⟨w.heap.size, 4, none⟩ = some (.string x) from fun W hW => (hA.below hW).cells)
  obtain ⟨a0, a1, a2, a3, a4⟩ := HA.out W0 (Below.refl _ _)
  have HS := hidM (show ∀ W, Below W0.heap.size W0 W → W.cell? ⟨w.heap.size, 0, none⟩ = some (.int .i64 agg) ∧ W.cell? ⟨w.heap.size, 1, none⟩ = some (.int .i64 bound) ∧ W.cell? ⟨w.heap.size, 2, none⟩ = some (.slice va L.length vc) ∧ Below W0.heap.size W0 W from fun W hW => ⟨(hA.below hW).cells.1, (hA.below hW).cells.2.1, (hA.below hW).cells.2.2.1, hW⟩)
  have HW := hidM hW0.symm
  have HB := hidM hb0
  have HN := hidM num_any
  have HK := hidM wakes_any
  clear h h0 hb0 hA hW0
  go_enter Try.func4, Try.ntmps4
  go_wp2_with fail
  rw [HW.out]
  refine H1.out.mono ?_
  rintro e W1 ⟨⟨hv, rfl, hsm⟩, hb1⟩
  cases hv with
  | true =>
    go_wp2
    go_ret
    exact ⟨rfl, nxt HB.out hb1⟩
  | false =>
    obtain ⟨hLs, hrs, -, -⟩ := hsm rfl
    have HRS := hidM hrs
    have HB1 := hidM hb1
    clear hsm hrs a0 a1 a2 a3 a4 H1 hb1
    go_wp2
    go_loopw [3] (fun i wr => ∃ n : Nat, i = .int .i64 n ∧ n ≤ L.length + 1 ∧ n ≤ 6 ∧ Below W0.heap.size W0 wr) (fun i _ => 7 - (intOf i).toNat)
    case atStart => exact ⟨0, rfl, by omega, by omega, HB1.out⟩
    case round =>
      clear HB1
      rename World => w1
      obtain ⟨n, rfl, hn1, hn6, hbr⟩ := hrel
      have HBR := hidM hbr
      obtain ⟨r0, r1, r2, r3, r4⟩ := HA.out w1 hbr
      clear hbr
      by_cases hnl : n ≤ L.length
      · by_cases hn5 : n < 6
        · have hnl' : (n : Int) ≤ (L.length : Int) := by omega
          have hn5' : (n : Int) < 6 := by omega
          have hnv : (n : Int) ≤ (vc : Int) := by omega
          have hnv' : n ≤ vc := by omega
          have hn0 : (0 : Int) ≤ (n : Int) := by omega
          obtain ⟨M, hM⟩ : ∃ M, M = L.take n := ⟨_, rfl⟩
          have hMl : M.length = n := by rw [hM, List.length_take]; omega
          have HML := hidM hMl
          have HMM := hidM (show ∀ r ∈ M, r ∈ L from fun r hr => by rw [hM] at hr; exact List.mem_of_mem_take hr)
          have HMW := hidM (show ∀ r ∈ M, WfRs r from fun r hr => HWF.out r (HMM.out r hr))
          have HMS := hidM (show ∀ r ∈ M, r.length ≤ 100000 ∧ ∀ y ∈ r, y.2.2.length ≤ 100000 from fun r hr => by
            obtain ⟨p1, p2⟩ := HRS.out r (HMM.out r hr)
            exact ⟨by omega, fun y hy => by have := p2 y hy; omega⟩)
          have HMF := hidM (show M.flatten.length ≤ 100000 from by
            have : M.flatten.length ≤ M.length * 6000 := by
              clear HMS HMW hMl HML
              have hs : ∀ r ∈ M, r.length ≤ 6000 := fun r hr => (HRS.out r (HMM.out r hr)).1
              clear hM HMM
              induction M with
              | nil => simp
              | cons a M ih =>
                have h1 := hs a (by simp)
                have h2 := ih (fun r hr => hs r (by simp [hr]))
                rw [List.flatten_cons, List.length_append, List.length_cons]
                omega
            omega)
          have HI := hidM (show ∀ W, Below W0.heap.size W0 W → RnS W (.slice va n vc) M from fun W hW => by rw [hM]; exact (HR.out W hW).take n hnl)
          obtain ⟨R, hR⟩ : ∃ R, R = joinRes agg bound M := ⟨_, rfl⟩
          have HRL := hidM (show R.1.length ≤ 100000 ∧ ∀ y ∈ R.1, y.2.2.length ≤ 100000 from by rw [hR]; exact joinRes_small HMW.out)
          have H2 := hidM (copyRuns_any (.slice va n vc) M w1 (HI.out w1 HBR.out) (by omega) HMS.out)
          have H3 := hidM (fun (W : World) (u : Value) (hu : RnS W u M) => joins_any agg bound u M W hu HMW.out (by omega) HMS.out)
          rw [← hR] at H3
          have H4 := hidM (fun W (hW : Below W0.heap.size W0 W) => rjoins_any agg bound (.slice va n vc) M W (HI.out W hW) HMW.out (by omega) (fun r hr => by
            obtain ⟨p1, p2⟩ := HRS.out r (HMM.out r hr)
            exact ⟨by omega, (HMS.out r hr).2⟩) HMF.out)
          rw [← hR] at H4
          clear hM hMl hR
          go_wp2_with (first
            | (go_at_call 18; refine H2.out.mono ?_; rintro e W2 ⟨⟨vi, rfl, hi⟩, hb2⟩; have hb2' := nxt HBR.out hb2; obtain ⟨b0, b1, b2, b3, b4⟩ := HA.out W2 hb2'; have HIN := hidM hi.rns; have H3b := hidM (H3.out W2 vi hi.rns); obtain ⟨ia, ic, rfl, -⟩ := hi.rns; have HHI := hidM hi; clear hi)
            | (go_at_call 19; refine H3b.out.mono ?_; rintro e W3 ⟨⟨vx, rfl, hox⟩, hb3⟩; have hb3' := nxt hb2' hb3; obtain ⟨c0, c1, c2, c3, c4⟩ := HA.out W3 hb3'; obtain ⟨xa, xc, rfl⟩ := id hox.slice; have HOX := hidM hox; clear hox))
          go_region_held3 (fun W => W.cell? ⟨w.heap.size, 0, none⟩ = some (.int .i64 agg) ∧ W.cell? ⟨w.heap.size, 1, none⟩ = some (.int .i64 bound) ∧ W.cell? ⟨w.heap.size, 2, none⟩ = some (.slice va L.length vc) ∧ Below W0.heap.size W0 W)
            (first | exact HS.out _ hb3'.drew | exact HS.out _ (nxt hb3'.drew hb4))
            (first | (go_at_call 20; refine (H4.out _ hb3'.drew).mono ?_; rintro e W4 ⟨⟨vw, rfl, how⟩, hb4⟩; obtain ⟨wa, wc, rfl⟩ := id how.slice; have HOW := hidM how; clear how))
          have hb34 := nxt (Below.refl W3.heap.size W3).drew hb4
          have hb04 := nxt hb3' hb34
          have hb24 := nxt hb3 hb34
          have HX4 := hidM (HOX.out.below hb34)
          have H5 := hidM (eqrows_any _ _ R.1 W4 HX4.out.ws HOW.out.ws HRL.out.1 HRL.out.2)
          clear hb4 hb34 hb3 hb3' c0 c1 c2 c3 c4 b0 b1 b2 b3 b4 H4 HOX HOW
          go_wp2_with (first
            | (go_at_call 14; refine (HN.out _ _).mono ?_; rintro e W4 ⟨rfl, rfl⟩)
            | (go_at_call 15; refine H5.out.mono ?_; clear H5; rintro e W5 ⟨rfl, hb5⟩; have hb05 := nxt hb04 hb5; have hb25 := nxt hb24 hb5; have HX5 := hidM (HX4.out.below hb5); obtain ⟨d0, d1, d2, d3, d4⟩ := HA.out W5 hb05; have H6 := hidM (eqRuns_any _ (.slice va n vc) M W5 (HIN.out.below hb25) (HI.out W5 hb05) (by have := HML.out; omega) HMS.out))
            | (go_at_call 21; refine H6.out.mono ?_; clear H6; rintro e W6 ⟨rfl, hb6⟩; have hb06 := nxt hb05 hb6; have hb26 := nxt hb25 hb6; have H7 := hidM (wipeRows_any W2.heap.size _ R.1 W6 (HX5.out.below hb6) HRL.out.1 HRL.out.2))
            | (go_at_call 22; refine H7.out.mono ?_; clear H7; rintro e W7 ⟨rfl, hb7⟩; have hb27 := hb26.trans hb7; have hb07 := nxt hb2' hb27; obtain ⟨e0, e1, e2, e3, e4⟩ := HA.out W7 hb07; have H8 := hidM (eqRuns_any _ (.slice va n vc) M W7 (HIN.out.below hb27) (HI.out W7 hb07) (by have := HML.out; omega) HMS.out))
            | (go_at_call 21; refine H8.out.mono ?_; clear H8; rintro e W8 ⟨rfl, hb8⟩; have hb08 := nxt hb07 hb8))
          have HB8 := hidM hb08
          clear e0 e1 e2 e3 e4 d0 d1 d2 d3 d4
          by_cases hz : n = 0
          · subst hz
            have hd1 : decide ((0 : Int) < ((0 : Nat) : Int)) = false := by decide
            have hb80 := hb08
            clear hb04 hb24 hb05 hb25 hb06 hb26 hb07 hb27 hb08
            go_quiet (fail)
            go_wp2
            go_roundw
            case rel => exact ⟨1, by go_num, by omega, by omega, nxt HB8.out (Drawn.below ⟨_, rfl⟩ _)⟩
            case measure => simp [intOf]
          · obtain ⟨m, hm⟩ : ∃ m, n = m + 1 := ⟨n - 1, by omega⟩
            obtain ⟨r, hr⟩ := getSome (l := L) (i := m) (by omega)
            have hrm := List.mem_of_getElem? hr
            have hrs := HRS.out r hrm
            have hll := HR.out W8 hb08
            have hcells := HA.out W8 hb08
            have HAA := hidM (fun W (hW : Below W8.heap.size W8 W) => HA.out W (nxt hb08 hW))
            obtain ⟨a9, c9, e9, h9⟩ := hll
            have e91 : va = a9 := by injection e9
            clear e9
            subst e91
            rcases h9 with h9 | ⟨b, off, rfl, hb, hat⟩
            · rw [h9] at hr; simp at hr
            obtain ⟨u, hu, hws, hcap⟩ := hat m r hr
            obtain ⟨ua, uc, rfl, -⟩ := id hws
            have HS14 := hidM (show ∀ W, Below W8.heap.size W8 W → W.cell? ⟨w.heap.size, 0, none⟩ = some (.int .i64 agg) ∧ W.cell? ⟨w.heap.size, 1, none⟩ = some (.int .i64 bound) ∧ W.cell? ⟨w.heap.size, 2, none⟩ = some (.slice (some ⟨b, off, none⟩) L.length vc) ∧ W.cell? ⟨w.heap.size, 3, none⟩ = some vv ∧ W.cell? ⟨w.heap.size, 4, none⟩ = some (.string x) ∧ W.cell? ⟨b, off + m, none⟩ = some (.slice ua r.length uc) ∧ Below W8.heap.size W8 W from fun W hW => by
              obtain ⟨p0, p1, p2, p3, p4⟩ := HAA.out W hW
              exact ⟨p0, p1, p2, p3, p4, (hW.cell (p := ⟨b, _, none⟩) hb).trans hu, hW⟩)
            have H9 := hidM (fun W (hW : Below W8.heap.size W8 W) => rcheck_any agg bound _ r W (hws.below hW) (by omega) (fun y hy => by have := hrs.2 y hy; omega) hcap)
            have H10 := hidM (fun W (hW : Below W8.heap.size W8 W) => lrows_any agg bound (.slice (some ⟨b, off, none⟩) L.length vc) vv x _ r W (hws.below hW) (by omega) (fun y hy => by have := hrs.2 y hy; omega))
            have hwr : IntKind.i64.wrap ((n : Int) - 1) = (m : Int) := by rw [IntKind.wrap_i64]; omega
            have hm0 : (0 : Int) ≤ (m : Int) := by omega
            have hmi : (m : Int) < (L.length : Int) := by omega
            have hd1 : decide ((0 : Int) < (n : Int)) = true := decide_eq_true (by omega)
            have hd2 : decide (0 < n) = true := decide_eq_true (by omega)
            clear hb04 hb24 hb05 hb25 hb06 hb26 hb07 hb27 hb08 hat hu hws hcells hr hrm hrs hcap hm
            generalize okRows agg bound r = ok at H9 H10
            cases ok with
            | true =>
              rw [show errC true = 0 from rfl] at H9
              go_region_held3 (fun W => W.cell? ⟨w.heap.size, 0, none⟩ = some (.int .i64 agg) ∧ W.cell? ⟨w.heap.size, 1, none⟩ = some (.int .i64 bound) ∧ W.cell? ⟨w.heap.size, 2, none⟩ = some (.slice (some ⟨b, off, none⟩) L.length vc) ∧ W.cell? ⟨w.heap.size, 3, none⟩ = some vv ∧ W.cell? ⟨w.heap.size, 4, none⟩ = some (.string x) ∧ W.cell? ⟨b, off + m, none⟩ = some (.slice ua r.length uc) ∧ Below W8.heap.size W8 W)
                (first | exact HS14.out _ (Below.refl _ _).drew | exact HS14.out _ (nxt (Below.refl W8.heap.size W8).drew hb9) | exact HS14.out _ (nxt (nxt (Below.refl W8.heap.size W8).drew hb9) hb10))
                (first
                  | (go_at_call 23; refine (H9.out _ (Below.refl W8.heap.size W8).drew).mono ?_; rintro e W9 ⟨rfl, hb9⟩)
                  | (go_at_call 14; refine (HN.out _ _).mono ?_; rintro e W9 ⟨rfl, rfl⟩)
                  | (go_at_call 24; refine (H10.out _ (nxt (Below.refl W8.heap.size W8).drew hb9)).mono ?_; rintro e W10 ⟨rfl, hb10⟩))
              go_wp2
              go_roundw
              case rel => exact ⟨n + 1, by go_num, by omega, by omega, nxt HB8.out (nxt (nxt (Below.refl W8.heap.size W8).drew hb9) hb10)⟩
              case measure => simp [intOf]; omega
            | false =>
              rw [show errC false = 1 from rfl] at H9
              go_region_held3 (fun W => W.cell? ⟨w.heap.size, 0, none⟩ = some (.int .i64 agg) ∧ W.cell? ⟨w.heap.size, 1, none⟩ = some (.int .i64 bound) ∧ W.cell? ⟨w.heap.size, 2, none⟩ = some (.slice (some ⟨b, off, none⟩) L.length vc) ∧ W.cell? ⟨w.heap.size, 3, none⟩ = some vv ∧ W.cell? ⟨w.heap.size, 4, none⟩ = some (.string x) ∧ W.cell? ⟨b, off + m, none⟩ = some (.slice ua r.length uc) ∧ Below W8.heap.size W8 W)
                (first | exact HS14.out _ (Below.refl _ _).drew | exact HS14.out _ (nxt (Below.refl W8.heap.size W8).drew hb9) | exact HS14.out _ (nxt (nxt (Below.refl W8.heap.size W8).drew hb9) hb10))
                (first
                  | (go_at_call 23; refine (H9.out _ (Below.refl W8.heap.size W8).drew).mono ?_; rintro e W9 ⟨rfl, hb9⟩)
                  | (go_at_call 14; refine (HN.out _ _).mono ?_; rintro e W9 ⟨rfl, rfl⟩)
                  | (go_at_call 24; refine (H10.out _ (nxt (Below.refl W8.heap.size W8).drew hb9)).mono ?_; rintro e W10 ⟨rfl, hb10⟩))
              go_wp2
              go_roundw
              case rel => exact ⟨n + 1, by go_num, by omega, by omega, nxt HB8.out (nxt (nxt (Below.refl W8.heap.size W8).drew hb9) hb10)⟩
              case measure => simp [intOf]; omega
        · have hn5' : ¬ (n : Int) < 6 := by omega
          have hnl' : (n : Int) ≤ (L.length : Int) := by omega
          have HK2 := hidM (HK.out w1)
          go_wp2_with (go_at_call 17; refine HK2.out.mono ?_; rintro e W8 ⟨rfl, hb8⟩)
          go_ret
          exact ⟨rfl, nxt HB.out (nxt HBR.out hb8)⟩
      · have hnl' : ¬ (n : Int) ≤ (L.length : Int) := by omega
        have HK2 := hidM (HK.out w1)
        go_wp2_with (go_at_call 17; refine HK2.out.mono ?_; rintro e W8 ⟨rfl, hb8⟩)
        go_ret
        exact ⟨rfl, nxt HB.out (nxt HBR.out hb8)⟩
end Go.Proofs.Yticpaemmdfmbfaa
