/- The law PartBack. -/
import Derived.Test.YtejgcflcckjlpaaGreatDoorBC45
import Derived.Test.YtejgcflcckjlpaaGreatDoorBC49
import Derived.Test.YtejgcflcckjlpaaGreatDoorBC54
import Derived.Test.YtejgcflcckjlpaaGreatDoorBC33M
import Derived.Test.YtejgcflcckjlpaaGreatDoorBC55
namespace Go.Proofs.YtejgcflcckjlpaaGreatDoor
open Go.RowKit
set_option linter.unusedVariables false
set_option maxRecDepth 100000

theorem within11_any (w : World) : Calls Tryz.prog 14 #[.int .i64 3, .int .i64 2] w fun e w' => e = .returned (.int .i64 1) ∧ w' = w := by
  go_enter Tryz.func14, Tryz.ntmps14
  go_wp2
  go_ret
  exact ⟨rfl, rfl⟩
theorem fineR_of {agg bound : Int} {l : List Rw} (h : okRows agg bound l = true) (hw : WfRs l) : FineR agg bound l := by
  have r := runOk_of h hw
  exact ⟨r.ok, r.cell, r.key⟩
theorem ordB_ok {agg bound : Int} {l : List Rw} (h : okRows agg bound l = true) : ordB l = true := by
  obtain ⟨q1, q2, q3, q4⟩ := okRows_parts h
  unfold ordB
  rw [decide_eq_true q4, decide_eq_true q2, List.all_eq_true.2 (fun r hr => decide_eq_true (q3 r hr).1)]
  rfl
/-- How many rows the first k partitions have. -/
def lensP (P : List (List Rw)) (k : Nat) : Nat := ((P.take k).map (·.length)).sum
theorem lensP_step {P : List (List Rw)} {k : Nat} {y : List Rw} (h : P[k]? = some y) : lensP P (k + 1) = lensP P k + y.length := by
  unfold lensP
  rw [List.take_add_one, h]
  simp
theorem lensP_le {P : List (List Rw)} (h : ∀ y ∈ P, y.length ≤ 6000) : ∀ k, lensP P k ≤ 6000 * k := by
  intro k
  induction k with
  | zero => unfold lensP; simp
  | succ k ih =>
    cases hy : P[k]? with
    | none =>
      have e : lensP P (k + 1) = lensP P k := by unfold lensP; rw [List.take_add_one, hy]; simp
      omega
    | some y =>
      have := h y (List.mem_of_getElem? hy)
      rw [lensP_step hy]
      omega
theorem lensP_all {n : Int} {l : List Rw} (hm : mayP n = true) : lensP (prt n l) (prt n l).length = l.length := by
  unfold lensP
  rw [List.take_length]
  exact parts_sum (fun r _ => ofP_lt hm r.1)
set_option maxHeartbeats 8000000 in
theorem lawpb (agg bound : Int) (vl vv : Value) (x : ByteArray) (L : List (List Rw)) (l : List Rc) (w : World) (h : In10 w agg bound vl vv x L l) (hh : Halves w) :
    Calls Tryz.prog 3 #[askV agg bound vl vv x] w (BoolR w true) := by
  have hb0 := (Below.refl w.heap.size w).alloc (Nat.le_refl _) (askO agg bound vl vv x)
  have hA := BlkA.new w agg bound vl vv x
  obtain ⟨W0, hW0⟩ : ∃ W0 : World, W0 = w.alloc (askO agg bound vl vv x) := ⟨_, rfl⟩
  rw [← hW0] at hb0 hA
  have h0 := h.below hb0
  have hh0 : Halves W0 := hh.below hb0 hh.pos
  have H1 := hidM (heavy_any agg bound vl vv x L l W0 h0)
  obtain ⟨va, vc, rfl, hvc, hvc2⟩ := h.hLcap
  have HR := hidM (show ∀ W, Below W0.heap.size W0 W → LLS W (.slice va L.length vc) L from fun W hW => h0.hL.1.below hW)
  have HWF := hidM (show ∀ r ∈ L, WfRs r from fun r hr => (h.hL.2.2 r hr).2)
  have HA := hidM (show ∀ W, Below W0.heap.size W0 W → W.cell? ⟨w.heap.size, 0, none⟩ = some (.int .i64 agg) ∧ W.cell? ⟨w.heap.size, 1, none⟩ = some (.int .i64 bound) ∧ W.cell? ⟨w.heap.size, 2, none⟩ = some (.slice va L.length vc) from fun W hW => ⟨(hA.below hW).cells.1, (hA.below hW).cells.2.1, (hA.below hW).cells.2.2.1⟩)
  obtain ⟨a0, a1, a2, a3, a4⟩ := hA.cells
  have HW := hidM hW0.symm
  have HB := hidM hb0
  have HN := hidM num11_any
  have HY := hidM (fun W => way_any agg bound W)
  have HI := hidM within11_any
  have HH := hidM (show ∀ W, Below W0.heap.size W0 W → Halves W from fun W hW => hh0.below hW hh0.pos)
  clear h h0 hb0 hA hW0 hh hh0
  go_enter Tryz.func3, Tryz.ntmps3
  go_wp2_with fail
  rw [HW.out]
  refine H1.out.mono ?_
  rintro e W1 ⟨⟨hv, rfl, hsm⟩, hb1⟩
  obtain ⟨b0, b1, b2⟩ := HA.out W1 hb1
  cases hv with
  | true =>
    go_wp2
    go_ret
    exact ⟨rfl, nxt HB.out hb1⟩
  | false =>
  obtain ⟨hLs, hrs, -, -⟩ := hsm rfl
  have HRS := hidM hrs
  have HB1 := hidM hb1
  clear hsm hrs a0 a1 a2 a3 a4 H1 hb1
  cases hway : wayC agg bound with
  | false =>
    rw [hway] at HY
    go_wp2_with (go_at_call 5; refine (HY.out W1).mono ?_; rintro e W2 ⟨rfl, hw2⟩; subst W2)
    go_ret
    exact ⟨rfl, nxt HB.out HB1.out⟩
  | true =>
  rw [hway] at HY
  go_wp2_with (go_at_call 5; refine (HY.out W1).mono ?_; rintro e W2 ⟨rfl, hw2⟩; subst W2)
  have HRW := hidM (fun (W : World) (u : Value) (m : List Rw) (hu : WS W u m) (h1 : m.length ≤ 100000) (h2 : ∀ r ∈ m, r.2.2.length ≤ 100000) => rrows_any agg bound u m W hu hway h1 h2)
  clear b0 b1 b2 HY
  go_loopw [3] (fun i wr => ∃ k : Nat, i = .int .i64 k ∧ k ≤ L.length ∧ k ≤ 6 ∧ Below W0.heap.size W0 wr) (fun i _ => 6 - (intOf i).toNat)
  case atStart => exact ⟨0, rfl, by omega, by omega, HB1.out⟩
  case round =>
    clear HB1
    rename World => w1
    obtain ⟨i, rfl, hi1, hi2, hbr⟩ := hrel
    have HBR := hidM hbr
    obtain ⟨r0, r1, r2⟩ := HA.out w1 hbr
    by_cases hil : i < L.length
    · by_cases hi6 : i < 6
      · have hii : (i : Int) < (L.length : Int) := by omega
        have hii6 : (i : Int) < 6 := by omega
        have hi0 : (0 : Int) ≤ (i : Int) := by omega
        obtain ⟨m, hy⟩ := getSome hil
        have hmm := List.mem_of_getElem? hy
        have hms := HRS.out m hmm
        have hmw := HWF.out m hmm
        obtain ⟨a9, c9, e9, h9⟩ := HR.out w1 hbr
        have e91 : va = a9 := by injection e9
        clear e9
        subst e91
        rcases h9 with h9 | ⟨b, off, rfl, hb, hat⟩
        · rw [h9] at hil; simp at hil
        obtain ⟨u, hu, hws, hcap⟩ := hat i m hy
        obtain ⟨ua, uc, rfl, -⟩ := id hws
        have hsets : ∀ r ∈ m, r.2.2.length ≤ 100000 := fun r hr => by have := hms.2 r hr; omega
        have HC := hidM (show ∀ W, Below w1.heap.size w1 W → W.cell? ⟨w.heap.size, 0, none⟩ = some (.int .i64 agg) ∧ W.cell? ⟨w.heap.size, 1, none⟩ = some (.int .i64 bound) ∧ W.cell? ⟨w.heap.size, 2, none⟩ = some (.slice (some ⟨b, off, none⟩) L.length vc) ∧ W.cell? ⟨b, off + i, none⟩ = some (.slice ua m.length uc) ∧ Below w1.heap.size w1 W from fun W hW => by
          obtain ⟨p0, p1, p2⟩ := HA.out W (nxt HBR.out hW)
          exact ⟨p0, p1, p2, (hW.cell (p := ⟨b, _, none⟩) hb).trans hu, hW⟩)
        have HWS := hidM (show ∀ W, Below w1.heap.size w1 W → WS W (.slice ua m.length uc) m from fun W hW => hws.below hW)
        have HRO := hidM (fun W (hW : Below w1.heap.size w1 W) => HRW.out W _ m (HWS.out W hW) (by omega) hsets)
        clear hbr hy hmm hb hat hws hu
        cases hok : okRows agg bound m with
        | false =>
          rw [hok] at HRO
          clear hok
          go_wp2_with fail
          go_region_held3 (fun W => W.cell? ⟨w.heap.size, 0, none⟩ = some (.int .i64 agg) ∧ W.cell? ⟨w.heap.size, 1, none⟩ = some (.int .i64 bound) ∧ W.cell? ⟨w.heap.size, 2, none⟩ = some (.slice (some ⟨b, off, none⟩) L.length vc) ∧ W.cell? ⟨b, off + i, none⟩ = some (.slice ua m.length uc) ∧ Below w1.heap.size w1 W)
            (first | exact HC.out _ (Below.refl _ _).drew | exact HC.out _ (nxt (Below.refl w1.heap.size w1).drew hb2))
            (first | (go_at_call 6; refine (HRO.out _ (Below.refl w1.heap.size w1).drew).mono ?_; rintro e W2 ⟨rfl, hb2⟩))
          go_wp2
          go_roundw
          case rel => exact ⟨i + 1, by go_num, by omega, by omega, nxt HBR.out (nxt (Below.refl w1.heap.size w1).drew hb2)⟩
          case measure => simp [intOf]; omega
        | true =>
          rw [hok] at HRO
          have hfine := fineR_of hok hmw
          have hord := ordB_ok hok
          have HFO := hidM hfine
          have HOR := hidM hord
          have HMW := hidM hmw
          have HCAP := hidM hcap
          have HST := hidM hsets
          have hm6 := hms.1
          clear hok hfine hord hmw hcap hsets hms
          go_wp2_with fail
          go_region_held3 (fun W => W.cell? ⟨w.heap.size, 0, none⟩ = some (.int .i64 agg) ∧ W.cell? ⟨w.heap.size, 1, none⟩ = some (.int .i64 bound) ∧ W.cell? ⟨w.heap.size, 2, none⟩ = some (.slice (some ⟨b, off, none⟩) L.length vc) ∧ W.cell? ⟨b, off + i, none⟩ = some (.slice ua m.length uc) ∧ Below w1.heap.size w1 W)
            (first | exact HC.out _ (Below.refl _ _).drew | exact HC.out _ (nxt (Below.refl w1.heap.size w1).drew hb2))
            (first | (go_at_call 6; refine (HRO.out _ (Below.refl w1.heap.size w1).drew).mono ?_; rintro e W2 ⟨rfl, hb2⟩))
          have HB2 := hidM (nxt (Below.refl w1.heap.size w1).drew hb2)
          clear HRO hb2 r0 r1 r2
          go_wp2
          go_loopw [4] (fun j wr => ∃ N : Nat, j = .int .i64 N ∧ 1 ≤ N ∧ N ≤ 9 ∧ Below w1.heap.size w1 wr) (fun j _ => 9 - (intOf j).toNat)
          case atStart => exact ⟨1, rfl, by omega, by omega, HB2.out⟩
          case round =>
            clear HB2
            rename World => w2
            obtain ⟨N, rfl, hN1, hN9, hbr⟩ := hrel
            have HBR2 := hidM hbr
            by_cases hN8 : N ≤ 8
            · have hNi : (N : Int) ≤ 8 := by omega
              obtain ⟨r0, r1, r2, r3, -⟩ := HC.out w2 hbr
              have hmay : mayP (N : Int) = true := by unfold mayP; rw [decide_eq_true (show (1 : Int) ≤ (N : Int) by omega), decide_eq_true hNi]; rfl
              have HM := hidM hmay
              have HS2 := hidM (show ∀ W, Below w2.heap.size w2 W → W.cell? ⟨w.heap.size, 0, none⟩ = some (.int .i64 agg) ∧ W.cell? ⟨w.heap.size, 1, none⟩ = some (.int .i64 bound) ∧ W.cell? ⟨w.heap.size, 2, none⟩ = some (.slice (some ⟨b, off, none⟩) L.length vc) ∧ W.cell? ⟨b, off + i, none⟩ = some (.slice ua m.length uc) ∧ Below w2.heap.size w2 W from fun W hW => by
                obtain ⟨p0, p1, p2, p3, -⟩ := HC.out W (nxt HBR2.out hW)
                exact ⟨p0, p1, p2, p3, hW⟩)
              have HOU := hidM (fun W (hW : Below w2.heap.size w2 W) => output_any agg bound (N : Int) _ m W (HWS.out W (nxt HBR2.out hW)) HCAP.out HFO.out HMW.out hmay (HH.out W (nxt HBR.out (nxt HBR2.out hW))))
              clear hbr
              by_cases hz : (outRes agg (N : Int) m).2 = 0
              · obtain ⟨z1, z2, z3⟩ := outRes_zero hz
                rw [z3] at HOU
                have HRD := hidM (fun W (hW : Below w2.heap.size w2 W) => read_back agg bound (N : Int) m W HFO.out HMW.out hmay z1 z2 (HH.out W (nxt HBR.out (nxt HBR2.out hW))))
                have HPA := hidM (fun W (hW : Below w2.heap.size w2 W) => parts_any (N : Int) _ m W (HWS.out W (nxt HBR2.out hW)) (by omega) HST.out HMW.out)
                have e1 : partsRes (N : Int) m = (prt (N : Int) m, 0) := by unfold partsRes; rw [hmay, HOR.out]; rfl
                rw [e1] at HPA
                have hPN : (prt (N : Int) m).length = N := by rw [show (prt (N : Int) m).length = (N : Int).toNat from partsR_len _ _ _, Int.toNat_natCast]
                have HPS := hidM (show ∀ y ∈ prt (N : Int) m, y.length ≤ 6000 from fun y hy => Nat.le_trans (prt_sub hy).length_le hm6)
                have HAL := hidM (lensP_all (n := (N : Int)) (l := m) hmay)
                have HPR := hidM (show ∀ k y, (prt (N : Int) m)[k]? = some y → RiseK y ∧ ∀ r ∈ y, (r.1.2.size ≤ 64 ∧ ofP (N : Int) r.1 = k) ∧ (-9223372036854775808 ≤ r.1.1 ∧ r.1.1 ≤ 9223372036854775807) from fun k y hk => by
                  have hs := prt_sub (List.mem_of_getElem? hk)
                  exact ⟨(okRows_parts HFO.out.ok).2.2.2.sublist hs, fun r hr => ⟨⟨(HFO.out.each (hs.subset hr)).1, prt_at hk r hr⟩, (HMW.out r (hs.subset hr)).k.1⟩⟩)
                generalize outB agg (prt (N : Int) m) = S at HOU HRD
                generalize prt (N : Int) m = P at HPA hPN HPS HAL HPR
                clear z1 z2 z3 hz e1 hmay
                go_wp2_with fail
                go_region_held3 (fun W => W.cell? ⟨w.heap.size, 0, none⟩ = some (.int .i64 agg) ∧ W.cell? ⟨w.heap.size, 1, none⟩ = some (.int .i64 bound) ∧ W.cell? ⟨w.heap.size, 2, none⟩ = some (.slice (some ⟨b, off, none⟩) L.length vc) ∧ W.cell? ⟨b, off + i, none⟩ = some (.slice ua m.length uc) ∧ Below w2.heap.size w2 W)
                  (first | exact HS2.out _ (Below.refl _ _).drew | exact HS2.out _ (nxt (Below.refl w2.heap.size w2).drew hb3))
                  (first | (go_at_call 7; refine (HOU.out _ (Below.refl w2.heap.size w2).drew).mono ?_; rintro e W3 ⟨rfl, hb3⟩))
                have hb23 := nxt (Below.refl w2.heap.size w2).drew hb3
                obtain ⟨s0, s1, s2, s3, -⟩ := HS2.out W3 hb23
                clear hb3 HOU r0 r1 r2 r3
                go_wp2_with (first
                  | (go_at_call 8; refine (HN.out _ _).mono ?_; rintro e W9 ⟨rfl, hw9⟩; subst W9)
                  | (go_at_call 9; refine (HRD.out W3 hb23).mono ?_; rintro e W4 ⟨⟨v4, rfl, ho4⟩, hb4⟩; have hb24 := nxt hb23 hb4; obtain ⟨t0, t1, t2, t3, -⟩ := HS2.out W4 hb24; have HO4 := hidM ho4; obtain ⟨a4, c4, rfl⟩ := id ho4.slice; clear ho4)
                  | (go_at_call 10; refine (HPA.out W4 hb24).mono ?_; rintro e W5 ⟨⟨v5, rfl, ho5⟩, hb5⟩; have hb25 := nxt hb24 hb5; obtain ⟨f0, f1, f2, f3, -⟩ := HS2.out W5 hb25; have hrn : RnS W5 v5 P := ho5.rns; obtain ⟨g, go, gc, rfl, hgl, hgc⟩ := hrn.shapeP (by omega); have HE := hidM (eqrows_any _ _ m W5 (HO4.out.below hb5).ws (HWS.out W5 (nxt HBR2.out hb25)) (by omega) HST.out); clear ho5 hrn)
                  | (go_at_call 11; refine HE.out.mono ?_; rintro e W6 ⟨rfl, hb6⟩))
                have HGC := hidM hgc
                have HGL := hidM hgl
                have HB6 := hidM hb6
                have HB25 := hidM hb25
                have hPi : (P.length : Int) = (N : Int) := by omega
                clear s0 s1 s2 s3 t0 t1 t2 t3 f0 f1 f2 f3 hb4 hb5 hb6 hb23 hb24 hb25 hgc hgl HO4 HE HRD HPA
                go_wp2
                go_loopw [11, 12] (fun mv k wr => ∃ q : Nat, k = .int .i64 q ∧ q ≤ N ∧ mv = .int .i64 (lensP P q : Nat) ∧ Below W5.heap.size W5 wr) (fun _ k _ => N - (intOf k).toNat)
                case atStart => exact ⟨0, rfl, by omega, rfl, HB6.out⟩
                case round =>
                  clear HB6
                  rename World => w3
                  obtain ⟨q, rfl, hq, rfl, hbr⟩ := hrel
                  have HBR3 := hidM hbr
                  have hle := lensP_le HPS.out q
                  by_cases hqN : q < N
                  · have hqi : (q : Int) < (N : Int) := by omega
                    have hq0 : (0 : Int) ≤ (q : Int) := by omega
                    have hqP : (q : Int) < (P.length : Int) := by omega
                    obtain ⟨y, hy⟩ := getSome (l := P) (i := q) (by omega)
                    have hy6 := HPS.out y (List.mem_of_getElem? hy)
                    have hstep := lensP_step hy
                    obtain ⟨hrise, hkeys⟩ := HPR.out q y hy
                    obtain ⟨yu, hyu, hyw, -⟩ := HGC.out q y hy
                    obtain ⟨ya, yc, rfl, hysh⟩ := id hyw
                    have HYU := hidM (show ∀ W, Below W5.heap.size W5 W → W.cell? ⟨g, go + q, none⟩ = some (.slice ya y.length yc) from fun W hW => (hW.cell (p := ⟨g, _, none⟩) HGL.out).trans hyu)
                    have HYW := hidM (show ∀ W, Below W5.heap.size W5 W → WS W (.slice ya y.length yc) y from fun W hW => hyw.below hW)
                    have HLS := hidM hstep
                    have HRI := hidM hrise
                    have d0 := HYU.out w3 hbr
                    clear hbr hstep hrise hyu hyw hysh hy
                    go_wp2
                    go_loopw [13] (fun j wr => ∃ p : Nat, j = .int .i64 p ∧ p ≤ y.length ∧ Below W5.heap.size W5 wr) (fun j _ => y.length - (intOf j).toNat)
                    case atStart => exact ⟨0, rfl, by omega, HBR3.out⟩
                    case round =>
                      clear HBR3
                      rename World => w4
                      obtain ⟨p, rfl, hp, hbr⟩ := hrel
                      have HBR4 := hidM hbr
                      have d1 := HYU.out w4 hbr
                      by_cases hpy : p < y.length
                      · have hpi : (p : Int) < (y.length : Int) := by omega
                        have hp0 : (0 : Int) ≤ (p : Int) := by omega
                        obtain ⟨⟨⟨ka, kb⟩, kn, kl⟩, hky⟩ := getSome hpy
                        obtain ⟨⟨hk1, hk2⟩, hk3⟩ := hkeys _ (List.mem_of_getElem? hky)
                        simp only at hk1 hk2 hk3
                        rcases (HYW.out w4 hbr).shape with ⟨_, _, e0, e1⟩ | ⟨b', off', cap', e0, hb', hat'⟩
                        · rw [e1] at hpy; simp at hpy
                        have e2 : ya = some ⟨b', off', none⟩ := by injection e0
                        clear e0
                        subst e2
                        obtain ⟨c0, c1, -⟩ := hat' p _ hky
                        simp only at c0 c1
                        have HF := hidM (of_any (N : Int) (ka, kb) w4 hk3.1 hk3.2)
                        rw [ofRes_ok hk1 HM.out, hk2] at HF
                        clear hk1 hk2 hk3
                        by_cases hz : p = 0
                        · subst hz
                          simp only [Nat.zero_mul, Nat.add_zero] at c0 c1
                          have hd1 : decide ((0 : Int) < ((0 : Nat) : Int)) = false := by decide
                          clear hky hat' hbr
                          go_wp2_with (first | (go_at_call 12; refine HF.out.mono ?_; rintro e W8 ⟨rfl, hb8⟩; have d2 := HYU.out W8 (nxt HBR4.out hb8)))
                          go_quiet ((go_at_call 8; exact Calls.quiet_of_same (HN.out _ _)))
                          go_wp2
                          go_roundw
                          case rel => exact ⟨1, by go_num, by omega, (nxt HBR4.out hb8).trans (Drawn.below ⟨_, rfl⟩ _)⟩
                          case measure => simp [intOf]; omega
                        · obtain ⟨t, ht⟩ : ∃ t, p = t + 1 := ⟨p - 1, by omega⟩
                          obtain ⟨⟨⟨xa, xb⟩, xn, xl⟩, hkx⟩ := getSome (l := y) (i := t) (by omega)
                          have hlt := rise_at HRI.out hkx hky (by omega)
                          simp only at hlt
                          obtain ⟨e0, e1, -⟩ := hat' t _ hkx
                          simp only at e0 e1
                          have HCM := hidM (fun W => rcmp_any (xa, xb) (ka, kb) W)
                          rw [cfK_neg1 hlt] at HCM
                          have HS4 := hidM (show ∀ W, Below w4.heap.size w4 W → W.cell? ⟨g, go + q, none⟩ = some (.slice (some ⟨b', off', none⟩) y.length yc) ∧ W.cell? ⟨b', off' + p * 4, none⟩ = some (.int .i64 ka) ∧ W.cell? ⟨b', off' + p * 4 + 1, none⟩ = some (.string kb) ∧ W.cell? ⟨b', off' + t * 4, none⟩ = some (.int .i64 xa) ∧ W.cell? ⟨b', off' + t * 4 + 1, none⟩ = some (.string xb) ∧ Below w4.heap.size w4 W from fun W hW =>
                            ⟨HYU.out W (nxt HBR4.out hW), (hW.cell (p := ⟨b', _, none⟩) hb').trans c0, (hW.cell (p := ⟨b', _, none⟩) hb').trans c1, (hW.cell (p := ⟨b', _, none⟩) hb').trans e0, (hW.cell (p := ⟨b', _, none⟩) hb').trans e1, hW⟩)
                          have hwr : IntKind.i64.wrap ((p : Int) - 1) = (t : Int) := by rw [IntKind.wrap_i64]; omega
                          have ht0 : (0 : Int) ≤ (t : Int) := by omega
                          have hti : (t : Int) < (y.length : Int) := by omega
                          have hd1 : decide ((0 : Int) < (p : Int)) = true := decide_eq_true (by omega)
                          have hd2 : decide (0 < p) = true := decide_eq_true (by omega)
                          have HT := hidM ht
                          clear hky hkx hat' hbr hlt ht e0 e1
                          go_wp2_with (first | (go_at_call 12; refine HF.out.mono ?_; rintro e W8 ⟨rfl, hb8⟩))
                          go_region_held3 (fun W => W.cell? ⟨g, go + q, none⟩ = some (.slice (some ⟨b', off', none⟩) y.length yc) ∧ W.cell? ⟨b', off' + p * 4, none⟩ = some (.int .i64 ka) ∧ W.cell? ⟨b', off' + p * 4 + 1, none⟩ = some (.string kb) ∧ W.cell? ⟨b', off' + t * 4, none⟩ = some (.int .i64 xa) ∧ W.cell? ⟨b', off' + t * 4 + 1, none⟩ = some (.string xb) ∧ Below w4.heap.size w4 W)
                            (first | exact HS4.out _ hb8.drew | exact HS4.out _ (nxt hb8.drew hb9))
                            (first
                              | (go_at_call 8; refine (HN.out _ _).mono ?_; rintro e W9 ⟨rfl, hw9⟩; subst W9)
                              | (go_at_call 13; refine (HCM.out _).mono ?_; rintro e W9 ⟨rfl, hb9⟩))
                          go_wp2
                          go_roundw
                          case rel => exact ⟨p + 1, by go_num, by omega, nxt HBR4.out (nxt hb8.drew hb9)⟩
                          case measure => simp [intOf]; omega
                      · have hpi : ¬ (p : Int) < (y.length : Int) := by omega
                        go_wp2
                        go_roundw
                        case rel => exact ⟨q + 1, by go_num, by omega, by rw [HLS.out]; go_num, hbr⟩
                        case measure => simp [intOf]; omega
                  · obtain rfl : q = N := by omega
                    have hqi : ¬ (q : Int) < (q : Int) := by omega
                    have e1 : lensP P q = m.length := by rw [← hPN]; exact HAL.out
                    obtain ⟨r0, r1, r2, r3, -⟩ := HS2.out w3 (nxt HB25.out hbr)
                    rw [e1]
                    clear e1 hle
                    go_wp2
                    go_roundw
                    case rel => exact ⟨q + 1, by go_num, by omega, by omega, nxt HBR2.out (nxt HB25.out hbr)⟩
                    case measure => simp [intOf]; omega
              · have hz2 : (outRes agg (N : Int) m).2 = 2 := by
                  unfold outRes at hz ⊢
                  split at hz
                  · exact absurd rfl hz
                  · next h1 => rw [if_neg h1]
                obtain ⟨os, oe, hO⟩ : ∃ os oe, outRes agg (N : Int) m = (os, oe) := ⟨_, _, rfl⟩
                rw [hO] at HOU hz2
                simp only at hz2
                subst hz2
                clear hO hz hmay
                go_wp2_with fail
                go_region_held3 (fun W => W.cell? ⟨w.heap.size, 0, none⟩ = some (.int .i64 agg) ∧ W.cell? ⟨w.heap.size, 1, none⟩ = some (.int .i64 bound) ∧ W.cell? ⟨w.heap.size, 2, none⟩ = some (.slice (some ⟨b, off, none⟩) L.length vc) ∧ W.cell? ⟨b, off + i, none⟩ = some (.slice ua m.length uc) ∧ Below w2.heap.size w2 W)
                  (first | exact HS2.out _ (Below.refl _ _).drew | exact HS2.out _ (nxt (Below.refl w2.heap.size w2).drew hb3))
                  (first | (go_at_call 7; refine (HOU.out _ (Below.refl w2.heap.size w2).drew).mono ?_; rintro e W3 ⟨rfl, hb3⟩))
                have HB3 := hidM (nxt (Below.refl w2.heap.size w2).drew hb3)
                clear hb3 HOU
                go_wp2_with (first
                  | (go_at_call 8; refine (HN.out _ _).mono ?_; rintro e W9 ⟨rfl, hw9⟩; subst W9))
                go_roundw
                case rel => exact ⟨N + 1, by go_num, by omega, by omega, nxt HBR2.out HB3.out⟩
                case measure => simp [intOf]; omega
            · have hNi : ¬ (N : Int) ≤ 8 := by omega
              go_wp2
              go_roundw
              case rel => exact ⟨i + 1, by go_num, by omega, by omega, nxt HBR.out hbr⟩
              case measure => simp [intOf]; omega
      · have hii : (i : Int) < (L.length : Int) := by omega
        have hii6 : ¬ (i : Int) < 6 := by omega
        have HK := hidM (wakes11_any w1 (HH.out w1 hbr))
        go_wp2_with (first | (go_at_call 14; refine (HI.out _).mono ?_; rintro e W2 ⟨rfl, hw2⟩; subst W2) | (go_at_call 15; refine HK.out.mono ?_; rintro e W8 ⟨rfl, hb8⟩))
        go_ret
        exact ⟨rfl, nxt HB.out (nxt HBR.out hb8)⟩
    · have hii : ¬ (i : Int) < (L.length : Int) := by omega
      have HK := hidM (wakes11_any w1 (HH.out w1 hbr))
      go_wp2_with (first | (go_at_call 14; refine (HI.out _).mono ?_; rintro e W2 ⟨rfl, hw2⟩; subst W2) | (go_at_call 15; refine HK.out.mono ?_; rintro e W8 ⟨rfl, hb8⟩))
      go_ret
      exact ⟨rfl, nxt HB.out (nxt HBR.out hb8)⟩
end Go.Proofs.YtejgcflcckjlpaaGreatDoor
