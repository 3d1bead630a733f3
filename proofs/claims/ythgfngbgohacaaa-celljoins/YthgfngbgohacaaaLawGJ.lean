/- Whether any cells may be, the cell of any number, and what any two are together: the walk. -/
import Derived.Test.YthgfngbgohacaaaGJK
import Derived.Test.YthgfngbgohacaaaGJR
namespace Go.Proofs.Ythgfngbgohacaaa
open Go.RowKit
set_option linter.unusedVariables false
set_option maxRecDepth 100000

set_option maxHeartbeats 8000000 in
theorem lawgj (ag bo : Int) (vl vv : Value) (x : ByteArray) (L : List Cl) (l : List Int) (w : World) (h : In9 w ag bo vl vv x L l) :
    Calls Try.prog 3 #[askV ag bo vl vv x] w (BoolR w true) := by
  obtain ⟨W0, hW0⟩ : ∃ W0 : World, w.alloc (askO ag bo vl vv x) = W0 := ⟨_, rfl⟩
  have hb0 : Below w.heap.size w W0 := by rw [← hW0]; exact stp _ _
  have hB0 : Box W0 w.heap.size ag bo vl vv x := by rw [← hW0]; exact heap_alloc_new w _
  have hin : In9 W0 ag bo vl vv x L l := ⟨h.hagg, h.hbound, ⟨h.hL.1.below hb0, h.hL.2⟩, ⟨h.hl.1.below hb0, h.hl.2⟩, h.hcap, h.hx⟩
  have Hh := hidM (heavy_any ag bo vl vv x L l W0 hin)
  have HW0 := hidM hW0
  have HB0 := hidM hB0
  have NX := hidM (fun W (hb : Below W0.heap.size W0 W) => nxt hb0 hb)
  obtain ⟨aL, cL, rfl, -⟩ := h.hL.1
  obtain ⟨aV, cV, rfl, -⟩ := h.hl.1
  have HA := hidM (cells_at hin.hL.1)
  have HV := hidM (longs_at hin.hl.1)
  have HWF := hidM h.hL.2.2
  have HWL := hidM h.hl.2.2
  obtain ⟨n, hn⟩ : ∃ n, L.length = n := ⟨_, rfl⟩
  obtain ⟨m, hm⟩ : ∃ m, l.length = m := ⟨_, rfl⟩
  have HN := hidM hn
  have HM := hidM hm
  have hnn := h.hL.2.1
  have hmm := h.hl.2.1
  rw [hn] at hnn
  rw [hm] at hmm
  rw [hn, hm] at Hh HW0 HB0 ⊢
  have hni : (n : Int) ≤ 17592186043904 := by omega
  have hmi : (m : Int) ≤ 17592186043904 := by omega
  have HK := hidM wakes_any
  have H1 := hidM (fun W => way_any ag bo W)
  have H2 := hidM (fun v W => cone_any ag bo v W)
  have H2r := hidM (fun v W => rone_any ag v W)
  have H3 := hidM num_any
  have H4 := hidM (fun (d : Cl) v u W (h1 : CS W v d) (h2 : CS W u d) (h3 : d.2.length ≤ 50000) => eqcell_any v u d W h1 h2 (by omega))
  have H5 := hidM (fun (d : Cl) v W (h1 : CS W v d) (h3 : d.2.length ≤ 4000) => copycell_any v d W h1 (by omega))
  have H6 := hidM (fun (c d : Cl) v u W (h1 : CS W v c) (h2 : CS W u d) (h3 : WfC c) (h4 : WfC d) (h5 : c.2.length ≤ 4000) (h6 : d.2.length ≤ 4000) => join_any ag bo v u c d W h1 h2 h3 h4 (by omega) (by omega))
  have H7 := hidM (fun (c d : Cl) v u W (h1 : CS W v c) (h2 : CS W u d) (h3 : WfC c) (h4 : WfC d) (h5 : c.2.length ≤ 4000) (h6 : d.2.length ≤ 4000) (h7 : chk ag bo c = true) (h8 : chk ag bo d = true) => rjoin_any ag bo v u c d W h1 h2 h3 h4 (by omega) (by omega) h7 h8)
  have H8 := hidM (fun (c : Cl) v W (h1 : CS W v c) (h3 : c.2.length ≤ 4000) => check_any ag bo v c W h1 (by omega))
  have H9 := hidM (fun (hw : wayC ag bo = true) (c : Cl) v W (h1 : CS W v c) (h3 : c.2.length ≤ 4000) => (by
    obtain ⟨g1, g6, gb, gb32, gb1⟩ := wayC_bd hw
    have := rcell_any ag bo.toNat v c W h1 (by omega)
    rw [Int.toNat_of_nonneg gb, show mayC ag bo.toNat c = chk ag bo c by unfold chk; rw [hw]; rfl] at this
    exact this : Calls Try.prog 15 #[.int .i64 ag, .int .i64 bo, v] W (BoolR W (chk ag bo c))))
  clear h hin hb0 hB0 hn hnn hW0 hm hmm
  obtain ⟨wy, hwy⟩ : ∃ wy, wayC ag bo = wy := ⟨_, rfl⟩
  rw [hwy] at H1
  have HWY := hidM hwy
  clear hwy
  go_enter Try.func3, Try.ntmps3
  go_wp2_with (go_at_call 9; rw [HW0.out]; refine Hh.out.mono ?_)
  rintro e W1 ⟨⟨r, rfl, hr⟩, hb1⟩
  cases r with
  | true =>
    go_wp2
    go_ret
    exact ⟨rfl, NX.out _ hb1⟩
  | false =>
    have hsm := hr rfl
    have HSM := hidM hsm
    obtain ⟨q0, q1, q2, q3, q4⟩ := (HB0.out.below hb1).cells
    have HB1 := hidM hb1
    clear hr hsm hb1
    go_upto_block 0 with (go_at_call 10; refine (H1.out _).mono ?_; rintro e w' ⟨rfl, hw⟩; obtain rfl := hw.symm)
    go_cut [4, 5, 6, 7, 8] from 26 to 69 (fun s4 s5 s6 s7 s8 wx => Hid (Below W0.heap.size W0 wx))
    case first =>
      go_wp2
      go_loopw [4] (fun i wr => ∃ k : Nat, k ≤ m ∧ k ≤ 10 ∧ i = .int .i64 (k : Int) ∧ Hid (Below W0.heap.size W0 wr)) (fun i _ => m - (intOf i).toNat)
      case atStart => exact ⟨0, by omega, by omega, rfl, HB1⟩
      case round =>
        obtain ⟨k, hk, hk10, rfl, HBK⟩ := hrel
        clear q0 q1 q2 q3 q4
        obtain ⟨q0, q1, q2, q3, q4⟩ := (HB0.out.below HBK.out).cells
        by_cases hkm : k < m
        · by_cases hk9 : k < 10
          · obtain ⟨v, hv⟩ := getSome (l := l) (i := k) (by have := HM.out; omega)
            have HVN := hidM (HWL.out v (List.mem_of_getElem? hv))
            obtain ⟨p, o, rfl, hcv⟩ := HV.out k v hv
            have HCV := hidM hcv
            clear hv hcv q0 q1 q2 q3 q4
            obtain ⟨m0, m1, m2, m3⟩ := keepV HBK.out HB0.out HCV.out
            have hk0 : (0 : Int) ≤ k := by omega
            have hki : (k : Int) < m := by omega
            have hk9i : (k : Int) < 10 := by omega
            have H2' := hidM (H2.out v)
            obtain ⟨⟨d, e0⟩, hde⟩ : ∃ de, oneR ag bo v = de := ⟨_, rfl⟩
            rw [hde] at H2'
            have HDE := hidM hde
            clear hde
            simp only at H2'
            go_upto_region 7 with fail
            go_cut [5, 6] from 37 to 49 (fun s5 s6 wx => ∃ (b5 : Nat) (a5 : Option Addr) (c5 : Nat), s5 = .pointer (some ⟨b5, 0, none⟩) ∧ s6 = .int .i64 e0 ∧ Hid (TB W0 b5 d a5 c5 wx))
            case first =>
              go_region_held3 (fun W' => VP W0 w.heap.size ag bo p o m cV k v W')
                (first
                  | exact keepV (nxt HBK.out (drw _)) HB0.out HCV.out
                  | exact keepV (nxt (nxt HBK.out (drw _)) (stp _ _)) HB0.out HCV.out
                  | exact keepV (nxt (nxt HBK.out (drw _)) hb2) HB0.out HCV.out
                  | exact keepV (nxt (nxt (nxt HBK.out (drw _)) (stp _ _)) hb2) HB0.out HCV.out
                  | exact keepV (nxt (nxt (nxt HBK.out (drw _)) hb2) (stp _ _)) HB0.out HCV.out
                  | exact keepV (below_set (nxt (nxt (nxt HBK.out (drw _)) (stp _ _)) hb2) HBK.out.size _ _) HB0.out HCV.out)
                (first | (go_at_call 11; refine (H2'.out _).mono ?_; rintro e W2 ⟨⟨v2, rfl, a2, c2, rfl, ho2⟩, hb2⟩; first | (have hX : BlkC W2 wr.heap.size 0 (.slice none 0 0) := (BlkC.new wr.drew 0 (.slice none 0 0)).below hb2; obtain ⟨x0, x1, fx0, fx1⟩ := hX.cells; obtain ⟨-, y1, -, fy1⟩ := (hX.set0 d.1).cells) | skip))
              · go_wp2
                go_meet
                exact ⟨_, a2, c2, rfl, rfl, nxt (nxt (nxt HBK.out (drw _)) hb2) (stp _ _), BlkC.new _ _ _, ho2.ns.below (stp _ _)⟩
              · go_wp2
                go_meet
                exact ⟨_, a2, c2, rfl, rfl, zero_set (nxt (nxt HBK.out (drw _)) (stp wr.drew (.cells #[.int .i64 0, .slice none 0 0] 29))) (by simp) HBK.out.size (BlkC.new wr.drew 0 (.slice none 0 0)) hb2 ho2 (by simp)⟩
            case rest =>
              obtain ⟨b5, a5, c5, rfl, rfl, T5⟩ := hcut
              clear m0 m1 m2 m3
              obtain ⟨m0, m1, m2, m3⟩ := keepV T5.out.bel HB0.out HCV.out
              go_upto_if 51 with fail
              have T5' := hidM (T5.out.next (stp wc (.cells #[.int .i64 0, .slice none 0 0] 29)))
              have HB8 := hidM (BlkC.new wc 0 (.slice none 0 0))
              have HST := hidM (stp wc (.cells #[.int .i64 0, .slice none 0 0] 29))
              have HW8 := hidM T5.out.bel.size
              clear m0 m1 m2 m3
              generalize hW8 : wc.alloc (.cells #[.int .i64 0, .slice none 0 0] 29) = W8 at *
              clear hW8
              obtain ⟨m0, m1, m2, m3⟩ := keepV T5'.out.bel HB0.out HCV.out
              go_cut [7] from 52 to 59 (fun s7 wx => s7 = .int .i64 e0 ∧ ∃ (a8 : Option Addr) (c8 : Nat), Hid (TB W0 b5 d a5 c5 wx) ∧ Hid (BlkC wx wc.heap.size d.1 (.slice a8 d.2.length c8) ∧ NS wx (.slice a8 d.2.length c8) d.2))
              case first =>
                cases wy with
                | false =>
                  have hde := HDE.out
                  unfold oneR at hde
                  rw [HWY.out] at hde
                  simp only [Bool.false_eq_true, if_false] at hde
                  injection hde with hd1 hd2
                  subst hd1 hd2
                  go_wp2
                  go_meet
                  exact ⟨rfl, none, 0, T5', HB8.out, none, 0, rfl, .inl rfl⟩
                | true =>
                  have hde := HDE.out
                  rw [oneR_of v HWY.out] at hde
                  injection hde with hd1 hd2
                  subst hd1 hd2
                  have HR := hidM (H2r.out v)
                  go_wp2
                  go_region_held3 (fun W' => VP W0 w.heap.size ag bo p o m cV k v W')
                    (first
                      | exact keepV (nxt T5'.out.bel (drw _)) HB0.out HCV.out
                      | exact keepV (nxt (nxt T5'.out.bel (drw _)) hb2) HB0.out HCV.out
                      | exact keepV (below_set (nxt (nxt T5'.out.bel (drw _)) hb2) HW8.out _ _) HB0.out HCV.out)
                    (first | (go_at_call 12; refine (HR.out _).mono ?_; rintro e W2 ⟨⟨v2, rfl, a2, c2, rfl, ho2⟩, hb2⟩; have hX := (HB8.out.below (drw _)).below hb2; obtain ⟨x0, x1, fx0, fx1⟩ := hX.cells; obtain ⟨-, y1, -, fy1⟩ := (hX.set0 (oneC ag v).1).cells))
                  go_wp2
                  go_meet
                  exact ⟨rfl, a2, c2, T5.out.next (below_set (nxt (nxt HST.out (drw _)) hb2) (Nat.le_refl _) _ _), hX.set, (own_set ho2 HB8.out.lt _ _).ns⟩
              case rest =>
                obtain ⟨rfl, a8, c8, T6, HB9⟩ := hcut
                clear m0 m1 m2 m3
                obtain ⟨y0, y1, -, -⟩ := T6.out.blk.cells
                obtain ⟨z0, z1, -, -⟩ := HB9.out.1.cells
                have hdl : d.2.length ≤ 50000 := by
                  have := HDE.out
                  unfold oneR at this
                  split at this
                  · injection this with h1 _; rw [← h1]; have := (wf_one (agg := ag) HVN.out).2; omega
                  · injection this with h1 _; rw [← h1]; simp
                have E1 := hidM (H4.out d _ _ _ T6.out.cs ⟨a8, c8, rfl, HB9.out.2⟩ hdl)
                clear hdl
                go_wp2_with (first | (go_at_call 13; refine (H3.out _ _).mono ?_; rintro e w' ⟨rfl, rfl⟩) | (go_at_call 14; refine E1.out.mono ?_; rintro e W5 ⟨rfl, hb5⟩))
                go_roundw
                case rel => exact ⟨k + 1, by omega, by omega, by go_num, nxt T6.out.bel hb5⟩
                case measure => simp [intOf]; omega
          · obtain rfl : k = 10 := by omega
            have hki : (10 : Int) < m := by omega
            go_wp2
            go_meet
            exact HBK
        · obtain rfl : k = m := by omega
          go_wp2
          go_meet
          exact HBK
    case rest =>
      have HBC := hcut
      clear hcut q0 q1 q2 q3 q4
      obtain ⟨q0, q1, q2, q3, q4⟩ := (HB0.out.below HBC.out).cells
      go_wp2
      go_loopw [9] (fun i wr => ∃ k : Nat, k ≤ n ∧ k ≤ 10 ∧ i = .int .i64 (k : Int) ∧ Hid (Below W0.heap.size W0 wr)) (fun i _ => n - (intOf i).toNat)
      case atStart => exact ⟨0, by omega, by omega, rfl, HBC⟩
      case round =>
        obtain ⟨k, hk, hk10, rfl, HBK⟩ := hrel
        clear q0 q1 q2 q3 q4
        obtain ⟨q0, q1, q2, q3, q4⟩ := (HB0.out.below HBK.out).cells
        by_cases hkn : k < n
        · by_cases hk9 : k < 10
          · obtain ⟨c, hc⟩ := getSome (l := L) (i := k) (by have := HN.out; omega)
            have HWC := hidM (HWF.out c (List.mem_of_getElem? hc)).1
            have HLC := hidM (HSM.out.hc c (List.mem_of_getElem? hc))
            obtain ⟨p, o, a, cp, rfl, hcc⟩ := HA.out k c hc
            have HCC := hidM (show CC W0 p o k c a cp from hcc)
            clear hc hcc q0 q1 q2 q3 q4
            obtain ⟨m0, m1, m2, m3, m4⟩ := keepL HBK.out HB0.out HCC.out
            have hk0 : (0 : Int) ≤ k := by omega
            have hki : (k : Int) < n := by omega
            have hk9i : (k : Int) < 10 := by omega
            obtain ⟨ch, hch⟩ : ∃ ch, chk ag bo c = ch := ⟨_, rfl⟩
            have HCH := hidM hch
            have H8c := hidM (fun W (hb : Below W0.heap.size W0 W) => H8.out c _ W (HCC.out.cs hb) HLC.out)
            have H9c := hidM (fun (hw : wayC ag bo = true) W (hb : Below W0.heap.size W0 W) => H9.out hw c _ W (HCC.out.cs hb) HLC.out)
            rw [hch] at H8c H9c
            clear hch
            go_upto_region 16 with fail
            go_cut [10] from 81 to 93 (fun s10 wx => s10 = .bool ch ∧ Hid (Below W0.heap.size W0 wx))
            case first =>
              cases wy with
              | false =>
                have hcf : ch = false := by rw [← HCH.out]; unfold chk; rw [HWY.out]; rfl
                subst hcf
                go_wp2
                go_quiet (fail)
                go_wp2
                go_meet
                exact ⟨rfl, nxt HBK.out ((Drawn.refl _).step _ |>.below _)⟩
              | true =>
                go_wp2
                go_region_held3 (fun W' => LP w.heap.size ag bo p o n cL k c a cp W')
                  (first | exact keepL (nxt HBK.out (drw _)) HB0.out HCC.out | exact keepL (nxt (nxt HBK.out (drw _)) hb2) HB0.out HCC.out)
                  (first | (go_at_call 15; refine (H9c.out HWY.out _ (nxt HBK.out (drw _))).mono ?_; rintro e W2 ⟨rfl, hb2⟩))
                go_wp2
                go_meet
                exact ⟨rfl, nxt (nxt HBK.out (drw _)) hb2⟩
            case rest =>
              obtain ⟨rfl, HB2⟩ := hcut
              clear m0 m1 m2 m3 m4
              obtain ⟨m0, m1, m2, m3, m4⟩ := keepL HB2.out HB0.out HCC.out
              have hq : (errC ch == 0) = ch := by cases ch <;> rfl
              go_wp2
              go_region_held3 (fun W' => LP w.heap.size ag bo p o n cL k c a cp W')
                (first | exact keepL (nxt HB2.out (drw _)) HB0.out HCC.out | exact keepL (nxt (nxt HB2.out (drw _)) hb2) HB0.out HCC.out)
                (first | (go_at_call 13; refine (H3.out _ _).mono ?_; rintro e w' ⟨rfl, rfl⟩) | (go_at_call 16; refine (H8c.out _ (nxt HB2.out (drw _))).mono ?_; rintro e W2 ⟨rfl, hb2⟩))
              have HB3 := hidM (nxt (nxt HB2.out (drw _)) hb2)
              clear hb2 m0 m1 m2 m3 m4 hq
              obtain ⟨q0, q1, q2, q3, q4⟩ := (HB0.out.below HB3.out).cells
              go_wp2
              go_loopw [11] (fun j wr => ∃ t : Nat, t ≤ n ∧ t ≤ 10 ∧ j = .int .i64 (t : Int) ∧ Hid (Below W0.heap.size W0 wr)) (fun j _ => n - (intOf j).toNat)
              case atStart => exact ⟨0, by omega, by omega, rfl, HB3⟩
              case round =>
                obtain ⟨t, ht, ht10, rfl, HBT⟩ := hrel
                clear q0 q1 q2 q3 q4
                obtain ⟨q0, q1, q2, q3, q4⟩ := (HB0.out.below HBT.out).cells
                by_cases htn : t < n
                · by_cases ht9 : t < 10
                  · obtain ⟨d, hd⟩ := getSome (l := L) (i := t) (by have := HN.out; omega)
                    have HWD := hidM (HWF.out d (List.mem_of_getElem? hd)).1
                    have HLD := hidM (HSM.out.hc d (List.mem_of_getElem? hd))
                    obtain ⟨p', o', a', cp', heq, hdd⟩ := HA.out t d hd
                    injection heq with heq
                    injection heq with heq1 heq2
                    subst heq1 heq2
                    have HDD := hidM (show CC W0 p o t d a' cp' from hdd)
                    clear hd hdd q0 q1 q2 q3 q4
                    obtain ⟨m0, ⟨m1, m2⟩, ⟨m3, m4⟩, -⟩ := mkLQ HB0.out HCC.out HDD.out HBT.out
                    have ht0 : (0 : Int) ≤ t := by omega
                    have hti : (t : Int) < n := by omega
                    have ht9i : (t : Int) < 10 := by omega
                    refine round3 _ _ W0 wr w.heap.size ag bo p o n cL k t cp cp' c d a a' (.slice aV m cV) x ch _ _ _ _ _ _ _ _ _ _ _ _ _ _ _ _ _ _ _ _ _ _ _ _ _ _ _ _ _ _ _ _ _ _ _ _ _ _ _ _ _ _ _ _ _ _ _ _ _ _ _ _ _ _ _ _ _ _ _ _ _ _ _ _ _ _ _ _ _ _ _ _ _ _ _ _ _ _ _ _ _ _ _ _ _ _ _ _ _ _ _ _ _ _ _ _ _ _ _ _ _ _ _ _ _ _ _ _ _ _ _ _ _ _ _ _ _ _ _ _ _ _ _ _ _ _ _ _ _ _ _ _ _ _ _ _ _ _ _ _ _ _ _ _ _ _ _ _ _ _ _ _ _ _ _ _ _ _ _ _ _ _ _ _ _ _ _ _ _ _ _ _ _ _ _ _ _ _ _ _ _ _ _ _ _ _ _ _ _ _ _ _ _ _ _ _ _ _ _ _ _ _ _ _ _ _ _ _ _ _ _ _ _ _ _ _ _ _ _ _ _ _ _ _ _ _ _ _ _ HB0 HCC HDD HBT HCH HWC HWD HLC HLD hk0 hki ht0 hti ht9i hkn htn hni (hidM ?_)
                    intro v12 v13 v14 v15 v16 v17 v18 v108 v109 v110 v111 v112 v113 v114 v115 v116 v117 v118 v119 v120 v121 v122 v123 v124 v125 v126 v127 v128 v129 v130 v131 v132 v133 v134 v135 v136 v137 v138 v139 v140 v141 v142 v143 v144 v145 v146 v147 v148 v149 v150 v151 v152 v153 v154 v155 v156 v157 v158 v159 v160 v161 v162 v163 v164 v165 v166 v167 v168 v169 v170 v171 v172 v173 v174 v175 v176 v177 v178 v179 v180 v181 v182 v183 v184 v185 v186 v187 v188 v189 v190 v191 v192 v193 v194 v195 v196 v197 v198 v199 v200 v201 v202 v203 v204 v205 v206 v207 v208 v209 v210 v211 v212 v213 v214 v215 v216 v217 v218 v219 v220 v221 v222 v223 v224 v225 v226 v227 v228 v229 v230 v231 w' hb
                    exact ⟨⟨_, .int .i64 ((t : Int) + 1), v12, v13, v14, v15, v16, v17, v18, v108, v109, v110, v111, v112, v113, v114, v115, v116, v117, v118, v119, v120, v121, v122, v123, v124, v125, v126, v127, v128, v129, v130, v131, v132, v133, v134, v135, v136, v137, v138, v139, v140, v141, v142, v143, v144, v145, v146, v147, v148, v149, v150, v151, v152, v153, v154, v155, v156, v157, v158, v159, v160, v161, v162, v163, v164, v165, v166, v167, v168, v169, v170, v171, v172, v173, v174, v175, v176, v177, v178, v179, v180, v181, v182, v183, v184, v185, v186, v187, v188, v189, v190, v191, v192, v193, v194, v195, v196, v197, v198, v199, v200, v201, v202, v203, v204, v205, v206, v207, v208, v209, v210, v211, v212, v213, v214, v215, v216, v217, v218, v219, v220, v221, v222, v223, v224, v225, v226, v227, v228, v229, v230, v231, ⟨t + 1, by omega, by omega, by simp, hb⟩, rfl⟩, by simp [intOf]; omega⟩
                  · obtain rfl : t = 10 := by omega
                    have hti : (10 : Int) < n := by omega
                    go_wp2
                    go_roundw
                    case rel => exact ⟨k + 1, by omega, by omega, by go_num, HBT⟩
                    case measure => simp [intOf]; omega
                · obtain rfl : t = n := by omega
                  go_wp2
                  go_roundw
                  case rel => exact ⟨k + 1, by omega, by omega, by go_num, HBT⟩
                  case measure => simp [intOf]; omega
          · obtain rfl : k = 10 := by omega
            have hki : (10 : Int) < n := by omega
            go_wp2_with (go_at_call 20; refine (HK.out _).mono ?_; rintro e W5 ⟨rfl, hb5⟩)
            go_ret
            exact ⟨rfl, NX.out _ (nxt HBK.out hb5)⟩
        · obtain rfl : k = n := by omega
          go_wp2_with (go_at_call 20; refine (HK.out _).mono ?_; rintro e W5 ⟨rfl, hb5⟩)
          go_ret
          exact ⟨rfl, NX.out _ (nxt HBK.out hb5)⟩
end Go.Proofs.Ythgfngbgohacaaa
