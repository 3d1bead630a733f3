/- Of one way alone, numbers gathered one by one, against the page's: the walk. -/
import Derived.Test.YthgfngbgohacaabLawGW
import Derived.Deep.CutBlock
namespace Go.Proofs.Ythgfngbgohacaab
open Go.RowKit
set_option linter.unusedVariables false
set_option maxRecDepth 100000

def bndOf (agg : Int) (n : Nat) : Int := if agg = 6 then 1 + (n : Int) % 32 else 0
theorem bnd_way {agg : Int} (n : Nat) (h1 : 1 ≤ agg) (h6 : agg ≤ 6) : wayC agg (bndOf agg n) = true := by
  unfold bndOf wayC
  by_cases h : agg = 6
  · rw [if_pos h, if_pos h]; exact decide_eq_true (by omega)
  · rw [if_neg h, if_neg h]; exact decide_eq_true (by omega)
/-- What a round reads. -/
theorem keepX {W0 W : World} {b1 cap bx capx p o k n cv b0 : Nat} {c d : Cl} {a ax : Option Addr} {agg bound v : Int} {vl : Value} {x : ByteArray} {l : List Int} (h : WX W0 b1 c a cap bx d ax capx W) (hB : Box W0 b0 agg bound vl (.slice (some ⟨p, o, none⟩) n cv) x) (hv : ∀ W', Below W0.heap.size W0 W' → W'.cell? ⟨p, o + k, none⟩ = some (.int .i64 v)) :
    W.cell? ⟨bx, 0, none⟩ = some (.int .i64 d.1) ∧ W.cell? ⟨bx, 1, none⟩ = some (.slice ax d.2.length capx) ∧ W.cell? ⟨b0, 3, none⟩ = some (.slice (some ⟨p, o, none⟩) n cv) ∧ W.cell? ⟨p, o + k, none⟩ = some (.int .i64 v) :=
  ⟨h.blk.cells.1, h.blk.cells.2.1, (hB.below h.wr.bel).cells.2.2.2.1, hv _ h.wr.bel⟩
set_option maxHeartbeats 4000000 in
theorem way_law (agg : Int) (ag bo : Int) (vl vv : Value) (x : ByteArray) (L : List Cl) (l : List Int) (w : World) (h : In9 w ag bo vl vv x L l) (g1 : 1 ≤ agg) (g6 : agg ≤ 6) :
    Calls Try.prog 6 #[askV ag bo vl vv x, .int .i64 agg] w (BoolR w true) := by
  obtain ⟨W0, hW0⟩ : ∃ W0 : World, w.alloc (askO ag bo vl vv x) = W0 := ⟨_, rfl⟩
  have hb0 : Below w.heap.size w W0 := by rw [← hW0]; exact stp _ _
  have hB0 : Box W0 w.heap.size ag bo vl vv x := by rw [← hW0]; exact heap_alloc_new w _
  have hin : In9 W0 ag bo vl vv x L l := ⟨h.hagg, h.hbound, ⟨h.hL.1.below hb0, h.hL.2⟩, ⟨h.hl.1.below hb0, h.hl.2⟩, h.hcap, h.hx⟩
  have Hh := hidM (heavy_any ag bo vl vv x L l W0 hin)
  have HW0 := hidM hW0
  have HB0 := hidM hB0
  have NX := hidM (fun W (hb : Below W0.heap.size W0 W) => nxt hb0 hb)
  have hw := bnd_way x.size g1 g6
  have HWL := hidM h.hl.2.2
  obtain ⟨av, cv, rfl, -⟩ := h.hl.1
  have HA := hidM (longs_at hin.hl.1)
  have HX := hidM (show x.size ≤ 140737488351232 from h.hx)
  obtain ⟨n, hn⟩ : ∃ n, l.length = n := ⟨_, rfl⟩
  have HN := hidM hn
  have hnn := h.hl.2.1
  rw [hn] at Hh HW0 HB0 hnn ⊢
  have hni : (n : Int) ≤ 17592186043904 := by omega
  obtain ⟨xs, hxs⟩ : ∃ xs, x.size = xs := ⟨_, rfl⟩
  rw [hxs] at hw
  have hxi : (xs : Int) ≤ 140737488351232 := by have := h.hx; omega
  have HK := hidM wakes_any
  have H1 := hidM (fun v W => cone_any agg (bndOf agg xs) v W)
  have H2 := hidM (fun v W => rone_any agg v W)
  have H3 := hidM num_any
  have H4 := hidM (fun (d : Cl) v u W (h1 : CS W v d) (h2 : CS W u d) (h3 : d.2.length ≤ 32) => eqcell_any v u d W h1 h2 (by omega))
  have H5 := hidM (fun (d : Cl) v W (h1 : CS W v d) (h3 : d.2.length ≤ 32) => copycell_any v d W h1 (by omega))
  obtain ⟨bd, hbd⟩ : ∃ bd, bndOf agg xs = bd := ⟨_, rfl⟩
  have HBD := hidM hbd
  rw [hbd] at H1 hw
  have HWAY := hidM hw
  have H6 := hidM (fun (c d : Cl) v u W (h1 : CS W v c) (h2 : CS W u d) (h3 : WfC c) (h4 : WfC d) (h5 : c.2.length ≤ 32) (h6 : d.2.length ≤ 32) => join_any agg bd v u c d W h1 h2 h3 h4 (by omega) (by omega))
  have H7 := hidM (fun (c d : Cl) v u W (h1 : CS W v c) (h2 : CS W u d) (h3 : WfC c) (h4 : WfC d) (h5 : c.2.length ≤ 32) (h6 : d.2.length ≤ 32) (h7 : chk agg bd c = true) (h8 : chk agg bd d = true) => rjoin_any agg bd v u c d W h1 h2 h3 h4 (by omega) (by omega) h7 h8)
  have H8 := hidM (fun (c : Cl) v W (h1 : CS W v c) (h2 : WfC c) (h3 : c.2.length ≤ 32) => cbytes_any agg bd v c W h1 h2 (by omega))
  have H9 := hidM (fun (s : ByteArray) W (h : s.size ≤ 1000) => ctake_any agg bd s W (by omega))
  clear hbd h hin hb0 hB0 hn hnn hW0
  go_enter Try.func6, Try.ntmps6
  go_wp2_with (go_at_call 7; rw [HW0.out]; refine Hh.out.mono ?_)
  rintro e W1 ⟨⟨r, rfl, hr⟩, hb1⟩
  cases r with
  | true =>
    go_wp2
    go_ret
    exact ⟨rfl, NX.out _ hb1⟩
  | false =>
    obtain ⟨q0, q1, q2, q3, q4⟩ := (HB0.out.below hb1).cells
    have HQ := hidM hxs
    go_upto_if 22 with fail
    go_cut [5] from 23 to 28 (fun s5 wx => s5 = .int .i64 bd ∧ wx = W1)
    case first =>
      by_cases e6 : agg = 6
      · subst e6
        go_wp2
        go_meet
        exact ⟨by rw [← HBD.out]; rfl, rfl⟩
      · have e6' : (agg == 6) = false := by simpa using e6
        go_wp2
        go_meet
        exact ⟨by rw [← HBD.out]; unfold bndOf; rw [if_neg e6], rfl⟩
    case rest =>
      obtain ⟨rfl, hwc⟩ := hcut
      obtain rfl := hwc.symm
      have hst : WR W0 W1.heap.size (0, []) none 0 (W1.alloc (.cells #[.int .i64 0, .slice none 0 0] 29)) := ⟨nxt hb1 (stp _ _), hb1.size, BlkC.new _ _ _, none, 0, rfl, .inl rfl⟩
      have HST := hidM hst
      have HB1 := hidM hb1
      clear hst hb1 hr
      generalize hb1' : W1.heap.size = b1 at HST
      have HE := hidM hb1'
      go_wp2
      go_loopw [7] (fun i wr => ∃ (k : Nat) (c : Cl) (a : Option Addr) (cap : Nat), k ≤ n ∧ k ≤ 60 ∧ i = .int .i64 (k : Int) ∧ Hid (WR W0 b1 c a cap wr) ∧ Hid (chk agg bd c = true ∧ WfC c ∧ c.2.length ≤ 32)) (fun i _ => n - (intOf i).toNat)
      case atStart => exact ⟨0, (0, []), none, 0, by omega, by omega, rfl, HST, chk_zero HWAY.out, ⟨num_zero, fun v hv => by simp at hv⟩, by simp⟩
      case round =>
        obtain ⟨k, c, a, cap, hk, hk60, rfl, HR, HC⟩ := hrel
        have hbox := (HB0.out.below HR.out.bel).cells
        obtain ⟨p0, p1, p2, p3, p4⟩ := hbox
        obtain ⟨z0, z1, -, -⟩ := HR.out.blk.cells
        by_cases hkn : k < n
        · by_cases hk6 : k < 60
          · obtain ⟨v, hv⟩ := getSome (l := l) (i := k) (by have := HN.out; omega)
            have hvn := HWL.out v (List.mem_of_getElem? hv)
            obtain ⟨p, o, rfl, hcv⟩ := HA.out k v hv
            have HCV := hidM hcv
            have hc0 := hcv _ HR.out.bel
            have HVN := hidM hvn
            clear hv hcv hvn q0 q1 q2 q3 q4
            have hk0 : (0 : Int) ≤ k := by omega
            have hki : (k : Int) < n := by omega
            have H1' := hidM (H1.out v wr)
            rw [oneR_of v HWAY.out] at H1'
            go_wp2_with (go_at_call 8; refine H1'.out.mono ?_; rintro e W2 ⟨⟨v2, rfl, a2, c2, rfl, ho2⟩, hb2⟩)
            have HX2 := hidM (WX.make HR.out hb2 ho2)
            have HO := hidM (wf_one (agg := agg) HVN.out)
            have HCO := hidM (chk_one (agg := agg) (bound := bd) v HWAY.out)
            have HR2 := hidM (H2.out v)
            generalize hoc : oneC agg v = d at *
            clear hc0 z0 z1 p0 p1 p2 p3 p4 hoc
            obtain ⟨m0, m1, m2, m3⟩ := keepX (l := l) HX2.out HB0.out HCV.out
            go_wp2
            go_region_held3 (fun W' => W'.cell? ⟨W2.heap.size, 0, none⟩ = some (.int .i64 d.1) ∧ W'.cell? ⟨W2.heap.size, 1, none⟩ = some (.slice a2 d.2.length c2) ∧ W'.cell? ⟨w.heap.size, 3, none⟩ = some (.slice (some ⟨p, o, none⟩) n cv) ∧ W'.cell? ⟨p, o + k, none⟩ = some (.int .i64 v))
              (first
                | exact keepX (l := l) (HX2.out.next (drw _)) HB0.out HCV.out
                | exact keepX (l := l) ((HX2.out.next (drw _)).next hb3) HB0.out HCV.out
                | exact keepX (l := l) (((HX2.out.next (drw _)).next hb3).next hb4) HB0.out HCV.out)
              (first
                | (go_at_call 9; refine (H3.out _ _).mono ?_; rintro e w' ⟨rfl, rfl⟩)
                | (go_at_call 11; refine (HR2.out _).mono ?_; rintro e W3 ⟨⟨v3, rfl, a3, c3, rfl, ho3⟩, hb3⟩)
                | (go_at_call 10; refine (H4.out d _ _ _ ((HX2.out.next (drw _)).next hb3).cs ⟨a3, c3, rfl, ho3.ns⟩ HO.out.2).mono ?_; rintro e W4 ⟨rfl, hb4⟩))
            have HX4 := hidM (((HX2.out.next (drw _)).next hb3).next hb4)
            clear m0 m1 m2 m3 hb2 hb3 hb4 ho2 ho3
            obtain ⟨m0, m1, -, -⟩ := HX4.out.blk.cells
            obtain ⟨z0, z1, g0, g1⟩ := HX4.out.wr.blk.cells
            by_cases hk00 : k = 0
            · subst hk00
              go_wp2_with (go_at_call 12; refine (H5.out d _ _ HX4.out.cs HO.out.2).mono ?_; rintro e W5 ⟨⟨v5, rfl, a5, c5, rfl, ho5⟩, hb5⟩; obtain ⟨i0, i1, j0, j1⟩ := (HX4.out.next hb5).wr.blk.cells; obtain ⟨-, i1', -, j1'⟩ := ((HX4.out.next hb5).wr.blk.set0 d.1).cells)
              go_roundw
              case rel => exact ⟨1, d, a5, c5, by omega, by omega, by go_num, HX4.out.wr.put hb5 ho5, HCO.out, HO.out⟩
              case measure => simp [intOf]; omega
            · have hkz : ((k : Int) == 0) = false := by simp; omega
              have H6' := hidM (H6.out c d _ _ _ HX4.out.wr.cs HX4.out.cs HC.out.2.1 HO.out.1 HC.out.2.2 HO.out.2)
              have H7' := hidM (fun W (h : Below W4.heap.size W4 W) => H7.out c d _ _ W (HX4.out.next h).wr.cs (HX4.out.next h).cs HC.out.2.1 HO.out.1 HC.out.2.2 HO.out.2 HC.out.1 HCO.out)
              have HJ := hidM (chk_join HC.out.1 HCO.out HC.out.2.1 HO.out.1)
              generalize joinR agg bd c d = r at *
              obtain ⟨r, re⟩ := r
              simp only at H6' H7' HJ
              go_wp2_with (go_at_call 13; refine H6'.out.mono ?_; rintro e W5 ⟨⟨v5, rfl, a5, c5, rfl, ho5⟩, hb5⟩; have hb5' := nxt hb5 (stp W5 (.cells #[.int .i64 r.1, .slice a5 r.2.length c5] 29)); obtain ⟨x0, x1, -, -⟩ := (HX4.out.next hb5').blk.cells; obtain ⟨y0, y1, -, -⟩ := (HX4.out.next hb5').wr.blk.cells; have hn5 := ho5.ns.below (stp W5 (.cells #[.int .i64 r.1, .slice a5 r.2.length c5] 29)); have hB5 := BlkC.new W5 r.1 (.slice a5 r.2.length c5))
              generalize hW5 : W5.alloc (.cells #[.int .i64 r.1, .slice a5 r.2.length c5] 29) = W6 at *
              go_upto_if 97 with (first | (go_at_call 14; refine (H7'.out _ hb5').mono ?_; rintro e W7 ⟨⟨v7, rfl, a7, c7, rfl, ho7⟩, hb7⟩; have hb7' := nxt hb7 (stp W7 (.cells #[.int .i64 r.1, .slice a7 r.2.length c7] 29)); obtain ⟨s0, s1, -, -⟩ := (hB5.below hb7').cells; have hn5' := hn5.below hb7'; have hn7 := ho7.ns.below (stp W7 (.cells #[.int .i64 r.1, .slice a7 r.2.length c7] 29))) | (go_at_call 9; refine (H3.out _ _).mono ?_; rintro e w' ⟨rfl, rfl⟩) | (go_at_call 10; refine (H4.out r _ _ _ ⟨a5, c5, rfl, hn5'⟩ ⟨a7, c7, rfl, hn7⟩ HJ.out.2.2.1).mono ?_; rintro e W9 ⟨rfl, hb9⟩))
              have hB7 := (BlkC.new W7 r.1 (.slice a7 r.2.length c7)).below hb9
              have HX9 := hidM (HX4.out.next (nxt hb5' (nxt hb7' hb9)))
              have HN9 := hidM (hn7.below hb9)
              obtain ⟨t0, t1, -, -⟩ := hB7.cells
              clear hn5 hn5' hn7 hb5 hb5' hb7 hb7' hb9 ho5 ho7 hB5 s0 s1 x0 x1 y0 y1 m0 m1 z0 z1 g0 g1 hW5
              go_cut [] from 98 to 99 (fun wx => ∃ (c' : Cl) (a' : Option Addr) (cap' : Nat), Hid (WR W0 b1 c' a' cap' wx) ∧ Hid (chk agg bd c' = true ∧ WfC c' ∧ c'.2.length ≤ 32))
              case first =>
                by_cases hre : re = 0
                · subst hre
                  go_wp2_with (go_at_call 12; refine (H5.out r _ _ ⟨a7, c7, rfl, HN9.out⟩ HJ.out.2.2.1).mono ?_; rintro e W10 ⟨⟨v10, rfl, a10, c10, rfl, ho10⟩, hb10⟩; obtain ⟨i0, i1, j0, j1⟩ := (HX9.out.next hb10).wr.blk.cells; obtain ⟨-, i1', -, j1'⟩ := ((HX9.out.next hb10).wr.blk.set0 r.1).cells)
                  go_meet
                  exact ⟨r, a10, c10, HX9.out.wr.put hb10 ho10, HJ.out.1 (by simp), HJ.out.2.1, HJ.out.2.2.1⟩
                · have hre' : (re == 0) = false := by simpa using hre
                  go_wp2
                  go_meet
                  exact ⟨c, a, cap, HX9.out.wr, HC.out⟩
              case rest =>
                obtain ⟨c', a', cap', HR', HC'⟩ := hcut
                clear t0 t1
                obtain ⟨z0, z1, g0, g1⟩ := HR'.out.blk.cells
                have H8' := hidM (H8.out c' _ _ HR'.out.cs HC'.out.2.1 HC'.out.2.2)
                rw [bytesR_of HC'.out.1] at H8'
                have hsz := cBytes_len (agg := agg) (c := c')
                have htk := take_of_bytes HC'.out.1 HC'.out.2.1 ⟨#[]⟩
                rw [app_empty] at htk
                have hsz' : (cBytes agg c').size ≤ 1000 := by have := HC'.out.2.2; omega
                have H9' := hidM (fun W => H9.out (cBytes agg c') W hsz')
                rw [htk] at H9'
                generalize cBytes agg c' = s at *
                clear hsz htk
                go_wp2_with (first | (go_at_call 15; refine H8'.out.mono ?_; rintro e W10 ⟨rfl, hb10⟩) | (go_at_call 16; refine (H9'.out _).mono ?_; rintro e W11 ⟨⟨v11, rfl, a11, c11, rfl, ho11⟩, hb11⟩; have hbz := nxt (nxt hb10 hb11) (stp W11 (.cells #[.int .i64 c'.1, .slice a11 c'.2.length c11] 29)); obtain ⟨k0, k1, -, -⟩ := (HR'.out.next hbz).blk.cells; have hnz := ho11.ns.below (stp W11 (.cells #[.int .i64 c'.1, .slice a11 c'.2.length c11] 29))) | (go_at_call 9; refine (H3.out _ _).mono ?_; rintro e w' ⟨rfl, rfl⟩) | (go_at_call 10; refine (H4.out c' _ _ _ ⟨a11, c11, rfl, hnz⟩ (HR'.out.next hbz).cs HC'.out.2.2).mono ?_; rintro e W12 ⟨rfl, hb12⟩))
                go_roundw
                case rel => exact ⟨k + 1, c', a', cap', by omega, by omega, by go_num, HR'.out.next (nxt hbz hb12), HC'⟩
                case measure => simp [intOf]; omega
          · obtain rfl : k = 60 := by omega
            have hki : (60 : Int) < n := by omega
            go_wp2_with (go_at_call 17; refine (HK.out _).mono ?_; rintro e W5 ⟨rfl, hb5⟩)
            go_ret
            exact ⟨rfl, NX.out _ (nxt HR.out.bel hb5)⟩
        · obtain rfl : k = n := by omega
          go_wp2_with (go_at_call 17; refine (HK.out _).mono ?_; rintro e W5 ⟨rfl, hb5⟩)
          go_ret
          exact ⟨rfl, NX.out _ (nxt HR.out.bel hb5)⟩
end Go.Proofs.Ythgfngbgohacaab
