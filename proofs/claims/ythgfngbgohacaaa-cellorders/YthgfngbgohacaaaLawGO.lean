/- In whatever order numbers are gathered: the walk. -/
import Derived.Test.YthgfngbgohacaaaGGathF
import Derived.Test.YthgfngbgohacaaaGGathG
namespace Go.Proofs.Ythgfngbgohacaaa
open Go.RowKit
set_option linter.unusedVariables false
set_option maxRecDepth 100000

theorem gather40 (agg bound way : Int) (hw : wayC agg bound = true) (hway : way = 0 ∨ way = 1 ∨ way = 2) : ∀ (m : Nat), m ≤ 40 → GIH agg bound way (m + 1)
  | 0, _, l, a, cap, w, hl, h => absurd (List.length_eq_zero_iff.1 (by omega)) h.ne
  | m + 1, h40, l, a, cap, w, hl, h => by
    by_cases hlt : l.length < m + 1
    · exact gather40 agg bound way hw hway m (by omega) l a cap w hlt h
    · have hm : l.length = m + 1 := by omega
      by_cases h0 : m = 0
      · subst h0
        obtain ⟨v, rfl⟩ := List.length_eq_one_iff.1 hm
        have := gather1 agg bound way v a cap w hw h
        rw [allC_one agg bound.toNat v (fun e => by have := (wayC_bd hw).2.2.2.2 e; omega)]
        exact this
      · rw [hm]
        exact gather2 agg bound way (m + 1) a (m + 1) l a cap w (.inl ⟨h40, rfl, rfl⟩) (by omega) hw hway hm (by omega) h40 h (gather40 agg bound way hw hway m (by omega))
/-- Cut to the first forty. -/
theorem gather_any (agg bound way : Int) (l : List Int) (a : Option Addr) (cap : Nat) (w : World) (hw : wayC agg bound = true) (hway : way = 0 ∨ way = 1 ∨ way = 2) (hl : l.length ≤ 4000) (h : GIn w a cap l) :
    Calls Try.prog 25 #[.int .i64 agg, .int .i64 bound, .slice a l.length cap, .int .i64 way] w (CellR w (allC agg bound.toNat (l.take 40)).1 (allC agg bound.toNat (l.take 40)).2) := by
  by_cases h40 : l.length ≤ 40
  · rw [List.take_of_length_le h40]
    exact gather40 agg bound way hw hway 40 (Nat.le_refl _) l a cap w (by omega) h
  · obtain ⟨a', ns', hr⟩ := slice_to h.ns 40 (by omega) h.cap1
    have hlt : (l.take 40).length = 40 := by rw [List.length_take]; omega
    refine gather2 agg bound way l.length a 40 (l.take 40) a' cap w (.inr ⟨by omega, rfl, hr⟩) (by omega) hw hway hlt (by decide) (Nat.le_refl _) ⟨by rw [hlt]; exact ns', by have := h.cap1; omega, h.cap2, fun e => by rw [e] at hlt; simp at hlt, fun x hx => h.wf x (List.mem_of_mem_take hx)⟩ ?_
    exact gather40 agg bound way hw hway 39 (by omega)
def bnd5 (agg : Int) (n : Nat) : Int := if agg = 6 then 1 + (n : Int) % 5 else 0
theorem bnd5_way {agg : Int} (n : Nat) (h1 : 1 ≤ agg) (h6 : agg ≤ 6) : wayC agg (bnd5 agg n) = true := by
  unfold bnd5 wayC
  by_cases h : agg = 6
  · rw [if_pos h, if_pos h]; exact decide_eq_true (by omega)
  · rw [if_neg h, if_neg h]; exact decide_eq_true (by omega)
set_option maxHeartbeats 4000000 in
theorem lawgo (ag bo : Int) (vl vv : Value) (x : ByteArray) (L : List Cl) (l : List Int) (w : World) (h : In9 w ag bo vl vv x L l) :
    Calls Try.prog 5 #[askV ag bo vl vv x] w (BoolR w true) := by
  obtain ⟨W0, hW0⟩ : ∃ W0 : World, w.alloc (askO ag bo vl vv x) = W0 := ⟨_, rfl⟩
  have hb0 : Below w.heap.size w W0 := by rw [← hW0]; exact stp _ _
  have hB0 : Box W0 w.heap.size ag bo vl vv x := by rw [← hW0]; exact heap_alloc_new w _
  have hin : In9 W0 ag bo vl vv x L l := ⟨h.hagg, h.hbound, ⟨h.hL.1.below hb0, h.hL.2⟩, ⟨h.hl.1.below hb0, h.hl.2⟩, h.hcap, h.hx⟩
  have Hh := hidM (heavy_any ag bo vl vv x L l W0 hin)
  have HW0 := hidM hW0
  have HB0 := hidM hB0
  have NX := hidM (fun W (hb : Below W0.heap.size W0 W) => nxt hb0 hb)
  have HWL := hidM h.hl.2.2
  have HNS := hidM hin.hl.1
  obtain ⟨av, cv, rfl, hcap1, hcap2⟩ := h.hcap
  have HCAP := hidM (⟨hcap1, hcap2⟩ : l.length ≤ cv ∧ cv ≤ 9223372036854775807)
  obtain ⟨n, hn⟩ : ∃ n, l.length = n := ⟨_, rfl⟩
  have HN := hidM hn
  have hnn := h.hl.2.1
  rw [hn] at Hh HW0 HB0 hnn ⊢
  have hni : (n : Int) ≤ 17592186043904 := by omega
  obtain ⟨xs, hxs⟩ : ∃ xs, x.size = xs := ⟨_, rfl⟩
  have hxi : (xs : Int) ≤ 140737488351232 := by have := h.hx; omega
  have HK := hidM wakes_any
  have H4 := hidM (fun (d : Cl) v u W (h1 : CS W v d) (h2 : CS W u d) (h3 : d.2.length ≤ 32) => eqcell_any v u d W h1 h2 (by omega))
  clear h hin hb0 hB0 hn hnn hW0 hcap1 hcap2
  go_enter Try.func5, Try.ntmps5
  go_wp2_with (go_at_call 9; rw [HW0.out]; refine Hh.out.mono ?_)
  rintro e W1 ⟨⟨r, rfl, hr⟩, hb1⟩
  cases r with
  | true =>
    go_wp2
    go_ret
    exact ⟨rfl, NX.out _ hb1⟩
  | false =>
    have hsm := hr rfl
    have HSM := hidM hsm
    obtain ⟨q0, q1, q2, q3, q4⟩ := (HB0.out.below hb1).cells
    have HQ := hidM hxs
    clear hsm hr
    by_cases hn0 : n = 0
    · subst hn0
      go_wp2
      go_ret
      exact ⟨rfl, NX.out _ hb1⟩
    · have hn0' : ((n : Int) == 0) = false := by simp; omega
      have HG := hidM (show ∀ W, Below W0.heap.size W0 W → GIn W av cv l from fun W hb => ⟨HNS.out.below hb, HCAP.out.1, HCAP.out.2, fun e => by have := HN.out; rw [e] at this; simp at this; omega, HWL.out⟩)
      have H1 := hidM (fun (agg bd way : Int) W (hw : wayC agg bd = true) (hway : way = 0 ∨ way = 1 ∨ way = 2) (hb : Below W0.heap.size W0 W) => gather_any agg bd way l av cv W hw hway HSM.out.hl (HG.out W hb))
      rw [HN.out] at H1
      have HB1 := hidM hb1
      clear hb1 q0 q1 q2 q3 q4
      obtain ⟨q0, q1, q2, q3, q4⟩ := (HB0.out.below HB1.out).cells
      go_wp2
      go_loopw [3] (fun i wr => ∃ k : Nat, 1 ≤ k ∧ k ≤ 7 ∧ i = .int .i64 (k : Int) ∧ Hid (Below W0.heap.size W0 wr)) (fun i _ => 7 - (intOf i).toNat)
      case atStart => exact ⟨1, by omega, by omega, rfl, HB1⟩
      case round =>
        obtain ⟨k, hk1, hk7, rfl, HBK⟩ := hrel
        obtain ⟨p0, p1, p2, p3, p4⟩ := (HB0.out.below HBK.out).cells
        clear q0 q1 q2 q3 q4
        by_cases hk6 : k ≤ 6
        · have hw := bnd5_way (agg := (k : Int)) xs (by omega) (by omega)
          obtain ⟨bd, hbd⟩ : ∃ bd, bnd5 (k : Int) xs = bd := ⟨_, rfl⟩
          rw [hbd] at hw
          have HBD := hidM hbd
          have HWY := hidM hw
          have HM := hidM (allC_may (l := l.take 40) hw (fun e => by have h1 := HN.out; have := congrArg List.length e; rw [List.length_take, List.length_nil] at this; omega) (fun x hx => HWL.out x (List.mem_of_mem_take hx)))
          have H1' := hidM (fun (way : Int) W (hway : way = 0 ∨ way = 1 ∨ way = 2) (hb : Below W0.heap.size W0 W) => H1.out (k : Int) bd way W hw hway hb)
          clear hbd hw
          generalize allC (k : Int) bd.toNat (l.take 40) = R at *
          obtain ⟨c, er⟩ := R
          simp only at H1' HM
          have hki : (k : Int) ≤ 6 := by omega
          go_upto_if 24 with fail
          go_cut [4] from 25 to 29 (fun s4 wx => s4 = .int .i64 bd ∧ wx = wr)
          case first =>
            by_cases e6 : k = 6
            · subst e6
              go_wp2
              go_meet
              exact ⟨by rw [← HBD.out]; rfl, rfl⟩
            · have e6' : ((k : Int) == 6) = false := by simp; omega
              go_wp2
              go_meet
              exact ⟨by rw [← HBD.out]; unfold bnd5; rw [if_neg (by omega)], rfl⟩
          case rest =>
            obtain ⟨rfl, hwc⟩ := hcut
            obtain rfl := hwc.symm
            have G1 := hidM (H1'.out 0 wr (.inl rfl) HBK.out)
            go_upto_region 10 with (go_at_call 25; refine G1.out.mono ?_; rintro e W2 ⟨⟨v2, rfl, a2, c2, rfl, ho2⟩, hb2⟩)
            have hb2' := nxt hb2 (stp W2 (.cells #[.int .i64 c.1, .slice a2 c.2.length c2] 29))
            have T2 := hidM (⟨nxt HBK.out hb2', BlkC.new W2 c.1 (.slice a2 c.2.length c2), ho2.ns.below (stp W2 (.cells #[.int .i64 c.1, .slice a2 c.2.length c2] 29))⟩ : TB W0 W2.heap.size c a2 c2 (W2.alloc (.cells #[.int .i64 c.1, .slice a2 c.2.length c2] 29)))
            clear p0 p1 p2 p3 p4 hb2 hb2' ho2
            generalize hW3 : W2.alloc (.cells #[.int .i64 c.1, .slice a2 c.2.length c2] 29) = W3 at *
            obtain ⟨p0, p1, p2, p3, p4⟩ := (HB0.out.below T2.out.bel).cells
            have G2 := hidM (H1'.out 1 W3 (.inr (.inl rfl)) T2.out.bel)
            clear hW3
            go_upto_region 11 with (go_at_call 25; refine G2.out.mono ?_; rintro e W4 ⟨⟨v4, rfl, a4, c4, rfl, ho4⟩, hb4⟩)
            have hb4' := nxt hb4 (stp W4 (.cells #[.int .i64 c.1, .slice a4 c.2.length c4] 29))
            have T2' := hidM (T2.out.next hb4')
            have T4 := hidM (⟨nxt T2.out.bel hb4', BlkC.new W4 c.1 (.slice a4 c.2.length c4), ho4.ns.below (stp W4 (.cells #[.int .i64 c.1, .slice a4 c.2.length c4] 29))⟩ : TB W0 W4.heap.size c a4 c4 (W4.alloc (.cells #[.int .i64 c.1, .slice a4 c.2.length c4] 29)))
            clear p0 p1 p2 p3 p4 hb4 hb4' ho4
            generalize hW5 : W4.alloc (.cells #[.int .i64 c.1, .slice a4 c.2.length c4] 29) = W5 at *
            obtain ⟨p0, p1, p2, p3, p4⟩ := (HB0.out.below T4.out.bel).cells
            have G3 := hidM (H1'.out 2 W5 (.inr (.inr rfl)) T4.out.bel)
            clear hW5
            go_upto_region 12 with (go_at_call 25; refine G3.out.mono ?_; rintro e W6 ⟨⟨v6, rfl, a6, c6, rfl, ho6⟩, hb6⟩)
            have hb6' := nxt hb6 (stp W6 (.cells #[.int .i64 c.1, .slice a6 c.2.length c6] 29))
            have T2'' := hidM (T2'.out.next hb6')
            have T4' := hidM (T4.out.next hb6')
            have T6 := hidM (⟨nxt T4.out.bel hb6', BlkC.new W6 c.1 (.slice a6 c.2.length c6), ho6.ns.below (stp W6 (.cells #[.int .i64 c.1, .slice a6 c.2.length c6] 29))⟩ : TB W0 W6.heap.size c a6 c6 (W6.alloc (.cells #[.int .i64 c.1, .slice a6 c.2.length c6] 29)))
            clear p0 p1 p2 p3 p4 hb6 hb6' ho6
            generalize hW7 : W6.alloc (.cells #[.int .i64 c.1, .slice a6 c.2.length c6] 29) = W7 at *
            obtain ⟨y0, y1, -, -⟩ := T2''.out.blk.cells
            obtain ⟨z0, z1, -, -⟩ := T4'.out.blk.cells
            obtain ⟨u0, u1, -, -⟩ := T6.out.blk.cells
            clear hW7
            have E1 := hidM (H4.out c _ _ W7 T2''.out.cs T4'.out.cs HM.out.2.2.1)
            have E2 := hidM (fun W (hb : Below W7.heap.size W7 W) => H4.out c _ _ W (T2''.out.next hb).cs (T6.out.next hb).cs HM.out.2.2.1)
            rcases HM.out.2.2.2.1 with rfl | rfl
            · go_wp2_with (first | (go_at_call 14; refine (E2.out _ hb8).mono ?_; rintro e W9 ⟨rfl, hb9⟩) | (go_at_call 14; refine E1.out.mono ?_; rintro e W8 ⟨rfl, hb8⟩; obtain ⟨y0', y1', -, -⟩ := (T2''.out.next hb8).blk.cells; obtain ⟨u0', u1', -, -⟩ := (T6.out.next hb8).blk.cells))
              go_roundw
              case rel => exact ⟨k + 1, by omega, by omega, by go_num, nxt T6.out.bel (nxt hb8 hb9)⟩
              case measure => simp [intOf]; omega
            · go_wp2
              go_roundw
              case rel => exact ⟨k + 1, by omega, by omega, by go_num, T6.out.bel⟩
              case measure => simp [intOf]; omega
        · obtain rfl : k = 7 := by omega
          go_wp2_with (go_at_call 20; refine (HK.out _).mono ?_; rintro e W5 ⟨rfl, hb5⟩)
          go_ret
          exact ⟨rfl, NX.out _ (nxt HBK.out hb5)⟩
end Go.Proofs.Ythgfngbgohacaaa
