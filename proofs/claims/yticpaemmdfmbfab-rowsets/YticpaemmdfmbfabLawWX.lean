/- Of one way alone, records folded, against the page's: the walk. -/
import Derived.Test.YticpaemmdfmbfabWLaw
import Derived.Test.YticpaemmdfmbfabWTkF
import Derived.Deep.CutBlock
namespace Go.Proofs.Yticpaemmdfmbfab
open Go.RowKit
set_option linter.unusedVariables false
set_option maxRecDepth 100000

set_option maxHeartbeats 4000000 in
theorem way_law (agg : Int) (ag bo : Int) (vl vv : Value) (x : ByteArray) (L : List (List Rw)) (l : List Rc) (w : World) (h : In10 w ag bo vl vv x L l) (g1 : 1 ≤ agg) (g6 : agg ≤ 6) :
    Calls Try.prog 6 #[askV ag bo vl vv x, .int .i64 agg] w (BoolR w true) := by
  have hb0 := (Below.refl w.heap.size w).alloc (Nat.le_refl _) (askO ag bo vl vv x)
  have hA := BlkA.new w ag bo vl vv x
  obtain ⟨W0, hW0⟩ : ∃ W0 : World, W0 = w.alloc (askO ag bo vl vv x) := ⟨_, rfl⟩
  rw [← hW0] at hb0 hA
  have h0 := h.below hb0
  have H1 := hidM (heavy_any ag bo vl vv x L l W0 h0)
  have HR := hidM (show ∀ W, Below W0.heap.size W0 W → RS W vv l from fun W hW => h0.hl.1.below hW)
  obtain ⟨va, vc, rfl, hvc, hvc2⟩ := h.hcap
  have HA := hidM (show ∀ W, Below W0.heap.size W0 W → W.cell? ⟨w.heap.size, 0, none⟩ = some (.int .i64 ag) ∧ W.cell? ⟨w.heap.size, 1, none⟩ = some (.int .i64 bo) ∧ W.cell? ⟨w.heap.size, 2, none⟩ = some vl ∧ W.cell? ⟨w.heap.size, 3, none⟩ = some (.slice va l.length vc) ∧ W.cell? ⟨w.heap.size, 4, none⟩ = some (.string x) from fun W hW => (hA.below hW).cells)
  obtain ⟨a0, a1, a2, a3, a4⟩ := HA.out W0 (Below.refl _ _)
  have hwf := hidM h.hl.2.2
  have HW := hidM hW0.symm
  have HB := hidM hb0
  have HN := hidM num_any
  have HK := hidM wakes_any
  have hw := bnd_way x.size 32 g1 g6 (by decide) (by decide)
  have HX := hidM h.hx
  clear h h0 hb0 hA hW0
  go_enter Try.func6, Try.ntmps6
  go_wp2_with fail
  rw [HW.out]
  refine H1.out.mono ?_
  rintro e W1 ⟨⟨hv, rfl, hsm⟩, hb1⟩
  cases hv with
  | true =>
    go_wp2
    go_ret
    exact ⟨rfl, nxt HB.out hb1⟩
  | false =>
    obtain ⟨-, -, hls, hxs⟩ := hsm rfl
    obtain ⟨b0, b1, b2, b3, b4⟩ := HA.out W1 hb1
    have H2 := hidM (rrecs_any _ l W1 (HR.out W1 hb1) (by omega))
    cases hko : keysOk l with
    | false =>
      rw [hko] at H2
      go_wp2_with (go_at_call 8; refine H2.out.mono ?_; rintro e W2 ⟨rfl, hb2⟩)
      go_ret
      exact ⟨rfl, nxt HB.out (nxt hb1 hb2)⟩
    | true =>
      rw [hko] at H2
      obtain ⟨bd, hbd⟩ : ∃ bd, bndOf agg x.size 32 = bd := ⟨_, rfl⟩
      have HBD := hidM hbd
      rw [hbd] at hw
      have HWAY := hidM hw
      have hxi : (x.size : Int) ≤ 6000 := by omega
      clear hbd hw hsm
      go_upto_if 24 with (go_at_call 8; refine H2.out.mono ?_; rintro e W2 ⟨rfl, hb2⟩; have hb2' := nxt hb1 hb2; obtain ⟨c0, c1, c2, c3, c4⟩ := HA.out W2 hb2')
      go_cut [5] from 25 to 29 (fun s5 wx => s5 = .int .i64 bd ∧ wx = W2)
      case first =>
        by_cases e6 : agg = 6
        · subst e6
          go_wp2
          go_meet
          exact ⟨by rw [← HBD.out]; rfl, rfl⟩
        · have e6' : (agg == 6) = false := by simpa using e6
          go_wp2
          go_meet
          exact ⟨by rw [← HBD.out]; unfold bndOf; rw [if_neg e6], rfl⟩
      case rest =>
        obtain ⟨rfl, hwc⟩ := hcut
        obtain rfl := hwc.symm
        -- LOOP
        have hmx : (l.length : Int) ≤ (vc : Int) := by omega
        have HB2 := hidM hb2'
        clear hb2' hb2 hb1 b0 b1 b2 b3 b4 c0 c1 c2 c3 c4 a0 a1 a2 a3 a4
        obtain ⟨q0, q1, q2, q3, q4⟩ := HA.out W2 HB2.out
        go_wp2
        go_loopw [6] (fun i wr => ∃ z : Int, i = .int .i64 z ∧ -1 ≤ z ∧ z ≤ l.length ∧ Below W0.heap.size W0 wr) (fun i _ => (intOf i + 1).toNat)
        case atStart => exact ⟨(l.length : Int), rfl, by omega, by omega, HB2.out⟩
        case round =>
          rename World => w0
          obtain ⟨z, rfl, hz1, hz2, hbr⟩ := hrel
          obtain ⟨r0, r1, r2, r3, r4⟩ := HA.out w0 hbr
          have HBR := hidM hbr
          clear q0 q1 q2 q3 q4
          by_cases hz : 0 ≤ z
          · obtain ⟨n, rfl⟩ := Int.eq_ofNat_of_zero_le hz
            have hnl : n ≤ l.length := by omega
            have hnv : (n : Int) ≤ (vc : Int) := by omega
            have hnv' : n ≤ vc := by omega
            obtain ⟨m, hm⟩ : ∃ m : Nat, m = n / 2 := ⟨_, rfl⟩
            have hdiv : (n : Int).tdiv 2 = (m : Int) := by rw [Int.tdiv_eq_ediv_of_nonneg (by omega)]; omega
            have hmn : m ≤ n := by omega
            have hmn2 : 1 ≤ n → m < n := by omega
            have HMN := hidM (And.intro hmn hmn2)
            have hm6 : m ≤ 6000 := by omega
            have hn6 : n ≤ 6000 := by omega
            have hltl : (l.take n).length = n := by rw [List.length_take]; omega
            have hrs : ∀ W, Below W0.heap.size W0 W → RS W (.slice va n vc) (l.take n) := fun W hW => RS.take (HR.out W hW) n hnl vc
            have H3 := hidM (fold_any agg bd _ (l.take n) w0 (hrs w0 hbr) (hwf.out.take n) (by omega))
            have H4 := hidM (fun W (hW : Below W0.heap.size W0 W) => rfold_any agg bd _ (l.take n) W (hrs W hW) (hwf.out.take n) (by omega) HWAY.out)
            obtain ⟨R, hR⟩ : ∃ R, R = fin (foldR agg bd.toNat (l.take n)) := ⟨_, rfl⟩
            have HFL := hidM (fin_len agg bd.toNat (l.take n))
            have HFS := hidM (fin_sets HWAY.out (hwf.out.take n))
            rw [← hR] at HFL HFS H4
            rw [hltl] at HFL
            have HR1 := hidM hR
            have HLT := hidM hltl
            clear hR hm hrs hbr hmn hmn2 hltl
            by_cases hbig : 1536 < l.length
            · have hbig' : (1536 : Int) < (l.length : Int) := by omega
              clear HFL HFS HR1
              go_wp2_with (first | (go_at_call 9; refine H3.out.mono ?_; rintro e W3 ⟨⟨v3, rfl, ho3⟩, hb3⟩; have hb3' := nxt HBR.out hb3; obtain ⟨d0, d1, d2, d3, d4⟩ := HA.out W3 hb3'; have HO3 := hidM ho3; clear ho3) | (go_at_call 10; refine (H4.out W3 hb3').mono ?_; rintro e W4 ⟨⟨v4, rfl, ho4⟩, hb4⟩; have hb4' := nxt hb3' hb4; obtain ⟨e0, e1, e2, e3, e4⟩ := HA.out W4 hb4'; clear ho4))
              go_ret
              exact ⟨rfl, nxt HB.out hb4'⟩
            · have hbig' : ¬ (1536 : Int) < (l.length : Int) := by omega
              have hres := foldRes_ok HWAY.out (keysOk_take hko n) (show (l.take n).length ≤ 1536 by rw [HLT.out]; omega)
              rw [hres, ← HR1.out] at H3
              clear hres
              by_cases hre : R.2 = 0
              · have HFI := hidM (show FineR agg bd R.1 by
                  have h1 := HR1.out
                  have h2 := fine_fold HWAY.out (keysOk_take hko n) (hwf.out.take n) (show (l.take n).length ≤ 1536 by rw [HLT.out]; omega)
                  unfold fin at h1
                  by_cases h3 : (foldR agg bd.toNat (l.take n)).2 = 0
                  · rw [if_pos h3] at h1; rw [h1]; exact h2
                  · rw [if_neg h3] at h1; rw [h1] at hre; exact absurd hre h3)
                clear HR1 hko
                go_wp2_with (first | (go_at_call 9; refine H3.out.mono ?_; rintro e W3 ⟨⟨v3, rfl, ho3⟩, hb3⟩; have hb3' := nxt HBR.out hb3; obtain ⟨d0, d1, d2, d3, d4⟩ := HA.out W3 hb3'; have HO3 := hidM ho3; clear ho3) | (go_at_call 10; refine (H4.out W3 hb3').mono ?_; rintro e W4 ⟨⟨v4, rfl, ho4⟩, hb4⟩; have hb4' := nxt hb3' hb4; obtain ⟨e0, e1, e2, e3, e4⟩ := HA.out W4 hb4'; have HO4 := hidM ho4; clear ho4; have H5 := hidM (eqrows_any v3 v4 R.1 W4 (HO3.out.ws.below hb4) HO4.out.ws (by have := HFL.out; omega) HFS.out)) | (go_at_call 11; refine (HN.out _ _).mono ?_; rintro e w' ⟨rfl, rfl⟩) | (go_at_call 12; refine H5.out.mono ?_; clear H5; rintro e W5 ⟨rfl, hb5⟩; have hb5' := nxt hb4' hb5; obtain ⟨f0, f1, f2, f3, f4⟩ := HA.out W5 hb5'; have hws5 := hidM ((HO3.out.ws.below hb4).below hb5); have H6 := hidM (rbytes_ok agg bd v3 R.1 W5 hws5.out HO3.out.cap HFI.out)) | (go_at_call 13; refine H6.out.mono ?_; rintro e W6 ⟨rfl, hb6⟩; have hb6' := nxt hb5' hb6; obtain ⟨g0, g1, g2, g3, g4⟩ := HA.out W6 hb6'; have H7 := hidM (rtake_back agg bd R.1 W6 HFI.out)) | (go_at_call 14; refine H7.out.mono ?_; rintro e W7 ⟨⟨v7, rfl, ho7⟩, hb7⟩; have hb7' := nxt hb6' hb7; obtain ⟨i0, i1, i2, i3, i4⟩ := HA.out W7 hb7'; have HO7 := hidM ho7; clear ho7; have hws7 := hidM (hws5.out.below (nxt hb6 hb7)); have H8 := hidM (rcheck_ok agg bd v3 R.1 W7 hws7.out (fun r hr => by have := (HFI.out.cell r hr).2.2; omega) HO3.out.cap HFI.out.ok)) | (go_at_call 15; refine H8.out.mono ?_; rintro e W8 ⟨rfl, hb8⟩; have hb8' := nxt hb7' hb8; obtain ⟨j0, j1, j2, j3, j4⟩ := HA.out W8 hb8'; have H9 := hidM (eqrows_any v7 v3 R.1 W8 (HO7.out.ws.below hb8) (hws7.out.below hb8) (by have := HFL.out; omega) HFS.out)) | (go_at_call 12; refine H9.out.mono ?_; rintro e W9 ⟨rfl, hb9⟩; have hb5' := nxt hb8' hb9))
                go_roundw
                case rel => exact ⟨(m : Int) - 1, by go_num, by omega, by have := HMN.out; omega, hb5'⟩
                case measure =>
                  have hh := HMN.out
                  simp [intOf]
                  omega
              · have hre' : (R.2 != 0) = true := by simp [hre]
                clear HR1 hko
                go_wp2_with (first | (go_at_call 9; refine H3.out.mono ?_; rintro e W3 ⟨⟨v3, rfl, ho3⟩, hb3⟩; have hb3' := nxt HBR.out hb3; obtain ⟨d0, d1, d2, d3, d4⟩ := HA.out W3 hb3'; have HO3 := hidM ho3; clear ho3) | (go_at_call 10; refine (H4.out W3 hb3').mono ?_; rintro e W4 ⟨⟨v4, rfl, ho4⟩, hb4⟩; have hb4' := nxt hb3' hb4; obtain ⟨e0, e1, e2, e3, e4⟩ := HA.out W4 hb4'; have HO4 := hidM ho4; clear ho4; have H5 := hidM (eqrows_any v3 v4 R.1 W4 (HO3.out.ws.below hb4) HO4.out.ws (by have := HFL.out; omega) HFS.out)) | (go_at_call 11; refine (HN.out _ _).mono ?_; rintro e w' ⟨rfl, rfl⟩) | (go_at_call 12; refine H5.out.mono ?_; clear H5; rintro e W5 ⟨rfl, hb5⟩; have hb5' := nxt hb4' hb5; obtain ⟨f0, f1, f2, f3, f4⟩ := HA.out W5 hb5'))
                go_roundw
                case rel => exact ⟨(m : Int) - 1, by go_num, by omega, by have := HMN.out; omega, hb5'⟩
                case measure =>
                  have hh := HMN.out
                  simp [intOf]
                  omega
          · have hz' : z = -1 := by omega
            subst hz'
            go_wp2_with (go_at_call 16; refine (HK.out _).mono ?_; rintro e W8 ⟨rfl, hb8⟩)
            go_ret
            exact ⟨rfl, nxt HB.out (nxt HBR.out hb8)⟩
end Go.Proofs.Yticpaemmdfmbfab
