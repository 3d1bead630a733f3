/- thresherlaw13.LocalWays: its walk. -/
import Derived.Test.YtaagllbcmgnbnaaGreatDoorMA51
namespace Go.Proofs.YtaagllbcmgnbnaaGreatDoor
open Go.RowKit
set_option linter.unusedVariables false
set_option maxRecDepth 100000

theorem cut_sub {n : Nat} {l c : List Rc} (h : c ∈ cutsM n l) : (∀ x ∈ c, x ∈ l) ∧ c.length ≤ l.length := by
  unfold cutsM cutTo at h
  obtain ⟨q, -, rfl⟩ := List.mem_map.1 h
  exact ⟨fun x hx => List.mem_of_mem_drop (List.mem_of_mem_take hx), by simp; omega⟩
theorem rowsC_flat_len (agg : Int) (bd : Nat) : ∀ C : List (List Rc), (rowsC agg bd C).flatten.length ≤ C.flatten.length
  | [] => by simp [rowsC]
  | c :: C => by
    have ih := rowsC_flat_len agg bd C
    have h1 := len_fold agg bd c
    simp only [rowsC, List.map_cons, List.flatten_cons, List.length_append] at ih ⊢
    omega
theorem keysOk_sub {l c : List Rc} (h : keysOk l = true) (hc : ∀ x ∈ c, x ∈ l) : keysOk c = true := by
  unfold keysOk at h ⊢
  rw [List.all_eq_true] at h ⊢
  exact fun x hx => h x (hc x hx)
theorem fineC {agg bound : Int} {n : Nat} {l : List Rc} (hw : wayC agg bound = true) (hk : keysOk l = true) (hwf : Wf l) (hl : l.length ≤ 1536) {r : List Rw} (hr : r ∈ rowsC agg bound.toNat (cutsM n l)) : FineR agg bound r := by
  obtain ⟨c, hc, rfl⟩ := List.mem_map.1 hr
  obtain ⟨h1, h2⟩ := cut_sub hc
  exact fine_fold hw (keysOk_sub hk h1) (fun x hx => hwf x (h1 x hx)) (by omega)
theorem ways_ok {agg bound : Int} {n : Nat} {l : List Rc} (hw : wayC agg bound = true) (hk : keysOk l = true) (hwf : Wf l) (hl : l.length ≤ 1536) (hn : 1 ≤ n) (h : ∀ c ∈ cutsM n l, (foldR agg bound.toNat c).2 = 0) :
    joinRes agg bound (rowsC agg bound.toNat (cutsM n l)) = fin (foldR agg bound.toNat l) := by
  have hb : agg = 6 → 1 ≤ bound.toNat := fun e => by have := (wayC_bd hw).2.2.2.2 e; omega
  have hj := cuts_join hb (cutsM n l) h
  rw [cuts_flat hn] at hj
  rw [joinRes_ok hw (fun r hr => (fineC hw hk hwf hl hr).ok) ?_, hj]
  have h1 := len_gat (joinC agg bound.toNat) (rowsC agg bound.toNat (cutsM n l)).flatten
  have h2 := rowsC_flat_len agg bound.toNat (cutsM n l)
  rw [cuts_flat hn] at h2
  omega
theorem ways_bad {agg bound : Int} {n : Nat} {l : List Rc} (hw : wayC agg bound = true) (hn : 1 ≤ n) (h : ∃ c ∈ cutsM n l, (foldR agg bound.toNat c).2 ≠ 0) : fin (foldR agg bound.toNat l) = ([], 11) := by
  have hb : agg = 6 → 1 ≤ bound.toNat := fun e => by have := (wayC_bd hw).2.2.2.2 e; omega
  obtain ⟨c, hc, h⟩ := h
  have := foldR_part hb hc h
  rw [cuts_flat hn] at this
  rw [fin_bad (by rw [this]; decide), this]
theorem fine_wf {agg bound : Int} {r : List Rw} (h : FineR agg bound r) : WfRs r := fun x hx => by
  obtain ⟨h1, h2, h3⟩ := h.each hx
  exact ⟨⟨h3.1, by omega⟩, h2.2.1, by have := h2.2.2; omega⟩
set_option maxHeartbeats 8000000 in
theorem lawlw (agg bound : Int) (vl vv : Value) (x : ByteArray) (L : List (List Rw)) (l : List Rc) (w : World) (h : In10 w agg bound vl vv x L l) (hE : Env w) (hH : Halves w) :
    Calls Tryz.prog 4 #[askV agg bound vl vv x] w (BoolR w true) := by
  have hb0 := (Below.refl w.heap.size w).alloc (Nat.le_refl _) (askO agg bound vl vv x)
  have hA := BlkA.new w agg bound vl vv x
  obtain ⟨W0, hW0⟩ : ∃ W0 : World, W0 = w.alloc (askO agg bound vl vv x) := ⟨_, rfl⟩
  rw [← hW0] at hb0 hA
  have h0 := h.below hb0
  have H1 := hidM (heavy_any agg bound vl vv x L l W0 h0)
  obtain ⟨va, vc, rfl, hvc, hvc2⟩ := h.hLcap
  obtain ⟨ra, rc, rfl, hrc, -⟩ := h.hcap
  have HENV := hidM (show ∀ W, Below W0.heap.size W0 W → Env W from fun W hW => (hE.low hb0).low hW)
  have HHAL := hidM (show ∀ W, Below W0.heap.size W0 W → Halves W from fun W hW => (hH.below hb0 hH.pos).below hW (hH.below hb0 hH.pos).pos)
  have HRC := hidM (show ∀ W, Below W0.heap.size W0 W → RS W (.slice ra l.length rc) l from fun W hW => h0.hl.1.below hW)
  have HWL := hidM (show Wf l from h.hl.2.2)
  have HA := hidM (show ∀ W, Below W0.heap.size W0 W → W.cell? ⟨w.heap.size, 0, none⟩ = some (.int .i64 agg) ∧ W.cell? ⟨w.heap.size, 1, none⟩ = some (.int .i64 bound) ∧ W.cell? ⟨w.heap.size, 2, none⟩ = some (.slice va L.length vc) ∧ W.cell? ⟨w.heap.size, 3, none⟩ = some (.slice ra l.length rc) ∧ W.cell? ⟨w.heap.size, 4, none⟩ = some (.string x) from fun W hW => (hA.below hW).cells)
  obtain ⟨a0, a1, a2, a3, a4⟩ := HA.out W0 (Below.refl _ _)
  have HW := hidM hW0.symm
  have HB := hidM hb0
  have HN := hidM num13_any
  have HK := hidM wakes13_any
  have HRCL := hidM hrc
  have HCK := hidM (fun W => rcheck_anyE .nil (.slice none 0 0) W (FS.nil W) (by decide) trivial)
  rw [show cE .nil = 0 by decide] at HCK
  clear h h0 hb0 hA hW0 hE hH
  go_enter Tryz.func4, Tryz.ntmps4
  go_wp2_with fail
  rw [HW.out]
  refine H1.out.mono ?_
  rintro e W1 ⟨⟨hv, rfl, hsm⟩, hb1⟩
  obtain ⟨z0, z1, z2, z3, z4⟩ := HA.out W1 hb1
  cases hv with
  | true =>
    go_wp2
    go_ret
    exact ⟨rfl, nxt HB.out hb1⟩
  | false =>
    obtain ⟨-, -, hll, -⟩ := hsm rfl
    have hl5 : l.length ≤ 100000 := by omega
    have HREC := hidM (fun W (hW : Below W0.heap.size W0 W) => rrecs_any (.slice ra l.length rc) l W (HRC.out W hW) hl5)
    have HWAY := hidM (fun W => way_any agg bound W)
    clear hsm a0 a1 a2 a3 a4 H1
    by_cases h200 : l.length ≤ 200
    · have hd : decide ((200 : Int) < (l.length : Int)) = false := decide_eq_false (by omega)
      have hdn : ¬ 200 < l.length := by omega
      cases hk : keysOk l with
      | true =>
        rw [hk] at HREC
        cases hw : wayC agg bound with
        | true =>
          rw [hw] at HWAY
          have HKO := hidM hk
          have HWY := hidM hw
          have HL200 := hidM h200
          have HFO := hidM (fun W (hW : Below W0.heap.size W0 W) => rfold_any agg bound (.slice ra l.length rc) l W (HRC.out W hW) HWL.out hl5 hw)
          have hfs : (fin (foldR agg bound.toNat l)).1.length ≤ 100000 := by have := fin_len agg bound.toNat l; omega
          have hfs2 := fin_sets (agg := agg) (bound := bound) (l := l) hw HWL.out
          have HFW := hidM (fun (n : Nat) (hn : 1 ≤ n) => ways_ok (agg := agg) (bound := bound) (n := n) (l := l) hw hk HWL.out (by omega) hn)
          have HFB := hidM (fun (n : Nat) (hn : 1 ≤ n) => ways_bad (agg := agg) (bound := bound) (n := n) (l := l) hw hn)
          obtain ⟨⟨F1, F2⟩, hF⟩ : ∃ F, F = fin (foldR agg bound.toNat l) := ⟨_, rfl⟩
          rw [← hF] at HFO HFW HFB hfs hfs2
          simp only at HFO hfs hfs2
          have HSZ := hidM (And.intro hfs hfs2)
          clear hF hfs hfs2 h200 hk hw
          go_wp2_with (first
            | (go_at_call 22; refine (HREC.out _ hb1).mono ?_; rintro e W2 ⟨rfl, hb2⟩; have hb02 := nxt hb1 hb2; obtain ⟨y0, y1, y2, y3, y4⟩ := HA.out W2 hb02)
            | (go_at_call 23; refine (HWAY.out _).mono ?_; rintro e W3 ⟨rfl, hw3⟩; subst W3)
            | (go_at_call 24; refine (HFO.out _ hb02).mono ?_; rintro e W3 ⟨⟨v3, rfl, ho3⟩, hb3⟩; have hb03 := nxt hb02 hb3; obtain ⟨a3, c3, rfl⟩ := ho3.slice; have HW3 := hidM ho3.ws; clear ho3))
          have HB3 := hidM hb03
          clear z0 z1 z2 z3 z4 y0 y1 y2 y3 y4 hb1 hb2 hb3 hb02 hb03
          go_loopw [5] (fun i wr => ∃ s : Nat, i = .int .i64 (s : Int) ∧ 1 ≤ s ∧ s ≤ 1000 ∧ Below W3.heap.size W3 wr) (fun i _ => (2000 - intOf i).toNat)
          case atStart => exact ⟨1, rfl, by omega, by omega, Below.refl _ _⟩
          case round =>
            rename World => w1
            obtain ⟨s, rfl, hs1, hs2, hbr⟩ := hrel
            have HBR := hidM (nxt HB3.out hbr)
            have HW1 := hidM (HW3.out.below hbr)
            obtain ⟨r0, r1, r2, r3, r4⟩ := HA.out w1 HBR.out
            have HBX := hidM hbr
            clear hbr
            by_cases hs : s < 300
            · have hsi : (s : Int) < 300 := by omega
              have hR := HFW.out s hs1
              have hRB := HFB.out s hs1
              have H3 := hidM (lruns_any agg bound (s : Int) ra rc l w1 (HRC.out _ HBR.out) HRCL.out HWL.out hl5 ⟨by omega, by omega⟩)
              have hmf : mayFo agg bound l = true := by
                unfold mayFo
                rw [HWY.out, HKO.out, decide_eq_true (show l.length ≤ 1536 by have := HL200.out; omega)]
                rfl
              rw [runsRes_yes (by omega) hmf, Int.toNat_natCast] at H3
              have hwr : IntKind.i64.wrap ((s : Int) * 2) = ((s * 2 : Nat) : Int) := by rw [IntKind.wrap_i64]; omega
              have hwr2 : IntKind.i64.wrap (((s * 2 : Nat) : Int) + 1) = ((s * 2 + 1 : Nat) : Int) := by rw [IntKind.wrap_i64]; omega
              rcases runsG_cases agg bound.toNat (cutsM s l) with ⟨hc, hall⟩ | ⟨hc, hex⟩
              · have hJ := hR hall
                have hfine : ∀ r ∈ rowsC agg bound.toNat (cutsM s l), FineR agg bound r := fun r hr => fineC HWY.out HKO.out HWL.out (by have := HL200.out; omega) hr
                have hlen : (rowsC agg bound.toNat (cutsM s l)).length ≤ 1000 := by
                  simp only [rowsC, cutsM, List.length_map, cutTo_len]
                  have := cutN_len (l := l) hs1
                  have := HL200.out
                  omega
                obtain ⟨C, hC⟩ : ∃ C, C = rowsC agg bound.toNat (cutsM s l) := ⟨_, rfl⟩
                rw [hc, ← hC] at H3
                rw [← hC] at hJ hfine hlen
                simp only at H3
                have H4 := hidM (fun (W : World) (v : Value) (hv : RnS W v C) => lmerge_any agg bound v C W hv (fun r hr => fine_wf (hfine r hr)) hlen (fun r hr => ⟨by have := (hfine r hr).len; omega, fun y hy => by have := ((hfine r hr).each hy).2.1.2.2; omega⟩))
                rw [hJ] at H4
                clear hR hRB hc hall hJ hfine hlen hC hmf
                go_wp2_with (first
                  | (go_at_call 10; refine H3.out.mono ?_; rintro e W4 ⟨⟨v4, rfl, hn4⟩, hb4⟩; have hb04 := nxt HBR.out hb4; obtain ⟨y0, y1, y2, y3, y4⟩ := HA.out W4 hb04; have H5 := hidM (H4.out W4 _ hn4); obtain ⟨a4, c4, rfl⟩ := hn4.slice; clear hn4)
                  | (go_at_call 14; refine (HN.out _ _).mono ?_; rintro e W6 ⟨rfl, rfl⟩)
                  | (go_at_call 17; refine H5.out.mono ?_; clear H5; rintro e W5 ⟨⟨v5, rfl, ho5⟩, hb5⟩; have H6 := hidM (eqrows_any _ _ F1 W5 ho5.ws ((HW1.out.below hb4).below hb5) HSZ.out.1 HSZ.out.2); obtain ⟨a5, c5, rfl⟩ := ho5.slice; clear ho5)
                  | (go_at_call 19; refine H6.out.mono ?_; clear H6; rintro e W7 ⟨rfl, hb7⟩))
                go_roundw
                case rel => exact ⟨s * 2 + 1, by go_num, by omega, by omega, nxt HBX.out (nxt hb4 (nxt hb5 hb7))⟩
                case measure => simp [intOf]; omega
              · have hJ := hRB hex
                obtain ⟨-, rfl⟩ := Prod.mk.inj hJ
                rw [hc] at H3
                simp only at H3
                clear hR hRB hc hex hJ hmf
                go_wp2_with (first
                  | (go_at_call 10; refine H3.out.mono ?_; rintro e W4 ⟨⟨v4, rfl, hn4⟩, hb4⟩; obtain ⟨a4, c4, rfl⟩ := hn4.slice; clear hn4)
                  | (go_at_call 14; refine (HN.out _ _).mono ?_; rintro e W6 ⟨rfl, rfl⟩))
                go_roundw
                case rel => exact ⟨s * 2 + 1, by go_num, by omega, by omega, nxt HBX.out hb4⟩
                case measure => simp [intOf]; omega
            · have hsi : ¬ (s : Int) < 300 := by omega
              go_wp2_with (first
                | (go_at_call 25; refine (HCK.out _).mono ?_; rintro e W4 ⟨rfl, hb4⟩)
                | (go_at_call 21; refine (HK.out _ (HENV.out _ (nxt HBR.out hb4)) (HHAL.out _ (nxt HBR.out hb4))).mono ?_; rintro e W5 ⟨rfl, hb5⟩))
              go_ret
              exact ⟨rfl, nxt HB.out (nxt HBR.out (nxt hb4 hb5))⟩
        | false =>
          rw [hw] at HWAY
          go_wp2_with (first
            | (go_at_call 22; refine (HREC.out _ hb1).mono ?_; rintro e W2 ⟨rfl, hb2⟩; obtain ⟨y0, y1, y2, y3, y4⟩ := HA.out W2 (nxt hb1 hb2))
            | (go_at_call 23; refine (HWAY.out _).mono ?_; rintro e W3 ⟨rfl, hw3⟩; subst W3))
          go_ret
          exact ⟨rfl, nxt HB.out (nxt hb1 hb2)⟩
      | false =>
        rw [hk] at HREC
        go_wp2_with (first
          | (go_at_call 22; refine (HREC.out _ hb1).mono ?_; rintro e W2 ⟨rfl, hb2⟩))
        go_ret
        exact ⟨rfl, nxt HB.out (nxt hb1 hb2)⟩
    · have hd : decide ((200 : Int) < (l.length : Int)) = true := decide_eq_true (by omega)
      have hdn : 200 < l.length := by omega
      go_wp2
      go_ret
      exact ⟨rfl, nxt HB.out hb1⟩
end Go.Proofs.YtaagllbcmgnbnaaGreatDoor
