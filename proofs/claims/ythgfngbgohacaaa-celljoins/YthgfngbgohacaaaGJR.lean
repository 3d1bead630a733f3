/- Two cells of the row together: one round of the third loop of the law of joins. -/
import Derived.Test.YthgfngbgohacaaaGJK
import Derived.Test.YthgfngbgohacaaaGJ2R
import Derived.Test.YthgfngbgohacaaaGRMay
import Derived.Deep.CutBlock
import Derived.Deep.CutRange
namespace Go.Proofs.Ythgfngbgohacaaa
open Go.RowKit
set_option linter.unusedVariables false
set_option maxRecDepth 100000

/-- What stands in the loop of a block. -/
def inBlk (k : Nat) : Code → Option Code
  | .block j c => if j = k then (match c with | .loop b => some b | _ => none) else inBlk k c
  | .seq a b => match inBlk k a with
    | some c => some c
    | none => inBlk k b
  | .loop c => inBlk k c
  | .scope c => inBlk k c
  | .cond _ a b => match inBlk k a with
    | some c => some c
    | none => inBlk k b
  | _ => none
noncomputable def body3 : Code := ((Try.f3.body.bind (inBlk 4)).getD .skip)
set_option maxHeartbeats 8000000 in
set_option maxRecDepth 1000000 in
theorem round3 (K : Act → World → Prop) (Q : Exit → Act → World → Prop) (W0 wr : World) (b0 : Nat) (ag bo : Int) (p o n cL k t cp cp' : Nat) (c d : Cl) (a a' : Option Addr) (vv : Value) (x : ByteArray) (ch : Bool) (u0 u2 u3 u4 u5 u6 u7 u8 u12 u13 u14 u15 u16 u17 u18 u19 u20 u21 u22 u23 u24 u25 u26 u27 u28 u29 u30 u31 u32 u33 u34 u35 u36 u37 u38 u39 u40 u41 u42 u43 u44 u45 u46 u47 u48 u49 u50 u51 u52 u53 u54 u55 u56 u57 u58 u59 u60 u61 u62 u63 u64 u65 u66 u67 u68 u69 u70 u71 u72 u73 u74 u75 u76 u77 u78 u79 u80 u81 u82 u83 u84 u85 u86 u87 u88 u89 u90 u91 u92 u93 u94 u95 u96 u97 u98 u99 u100 u101 u102 u103 u104 u105 u106 u107 u108 u109 u110 u111 u112 u113 u114 u115 u116 u117 u118 u119 u120 u121 u122 u123 u124 u125 u126 u127 u128 u129 u130 u131 u132 u133 u134 u135 u136 u137 u138 u139 u140 u141 u142 u143 u144 u145 u146 u147 u148 u149 u150 u151 u152 u153 u154 u155 u156 u157 u158 u159 u160 u161 u162 u163 u164 u165 u166 u167 u168 u169 u170 u171 u172 u173 u174 u175 u176 u177 u178 u179 u180 u181 u182 u183 u184 u185 u186 u187 u188 u189 u190 u191 u192 u193 u194 u195 u196 u197 u198 u199 u200 u201 u202 u203 u204 u205 u206 u207 u208 u209 u210 u211 u212 u213 u214 u215 u216 u217 u218 u219 u220 u221 u222 u223 u224 u225 u226 u227 u228 u229 u230 u231 u232 : Value)
    (HB0 : Hid (Box W0 b0 ag bo (.slice (some ⟨p, o, none⟩) n cL) vv x)) (HCC : Hid (CC W0 p o k c a cp)) (HDD : Hid (CC W0 p o t d a' cp')) (HBT : Hid (Below W0.heap.size W0 wr)) (HCH : Hid (chk ag bo c = ch))
    (HWC : Hid (WfC c)) (HWD : Hid (WfC d)) (HLC : Hid (c.2.length ≤ 4000)) (HLD : Hid (d.2.length ≤ 4000)) (hk0 : (0 : Int) ≤ k) (hki : (k : Int) < n) (ht0 : (0 : Int) ≤ t) (hti : (t : Int) < n) (ht9i : (t : Int) < 10) (hkn : k < n) (htn : t < n) (hni : (n : Int) ≤ 17592186043904)
    (HK : Hid (∀ (v12 v13 v14 v15 v16 v17 v18 v108 v109 v110 v111 v112 v113 v114 v115 v116 v117 v118 v119 v120 v121 v122 v123 v124 v125 v126 v127 v128 v129 v130 v131 v132 v133 v134 v135 v136 v137 v138 v139 v140 v141 v142 v143 v144 v145 v146 v147 v148 v149 v150 v151 v152 v153 v154 v155 v156 v157 v158 v159 v160 v161 v162 v163 v164 v165 v166 v167 v168 v169 v170 v171 v172 v173 v174 v175 v176 v177 v178 v179 v180 v181 v182 v183 v184 v185 v186 v187 v188 v189 v190 v191 v192 v193 v194 v195 v196 v197 v198 v199 v200 v201 v202 v203 v204 v205 v206 v207 v208 v209 v210 v211 v212 v213 v214 v215 v216 v217 v218 v219 v220 v221 v222 v223 v224 v225 v226 v227 v228 v229 v230 v231 : Value) (w' : World), Below W0.heap.size W0 w' → K ⟨#[u0, .pointer (some ⟨b0, 0, none⟩), u2, u3, u4, u5, u6, u7, u8, .int .i64 (k : Int), .bool ch, .int .i64 ((t : Int) + 1), v12, v13, v14, v15, v16, v17, v18, u19, u20, u21, u22, u23, u24, u25, u26, u27, u28, u29, u30, u31, u32, u33, u34, u35, u36, u37, u38, u39, u40, u41, u42, u43, u44, u45, u46, u47, u48, u49, u50, u51, u52, u53, u54, u55, u56, u57, u58, u59, u60, u61, u62, u63, u64, u65, u66, u67, u68, u69, u70, u71, u72, u73, u74, u75, u76, u77, u78, u79, u80, u81, u82, u83, u84, u85, u86, u87, u88, u89, u90, u91, u92, u93, u94, u95, u96, u97, u98, u99, u100, u101, u102, u103, u104, u105, u106, u107, v108, v109, v110, v111, v112, v113, v114, v115, v116, v117, v118, v119, v120, v121, v122, v123, v124, v125, v126, v127, v128, v129, v130, v131, v132, v133, v134, v135, v136, v137, v138, v139, v140, v141, v142, v143, v144, v145, v146, v147, v148, v149, v150, v151, v152, v153, v154, v155, v156, v157, v158, v159, v160, v161, v162, v163, v164, v165, v166, v167, v168, v169, v170, v171, v172, v173, v174, v175, v176, v177, v178, v179, v180, v181, v182, v183, v184, v185, v186, v187, v188, v189, v190, v191, v192, v193, v194, v195, v196, v197, v198, v199, v200, v201, v202, v203, v204, v205, v206, v207, v208, v209, v210, v211, v212, v213, v214, v215, v216, v217, v218, v219, v220, v221, v222, v223, v224, v225, v226, v227, v228, v229, v230, v231, u232], []⟩ w')) :
    Code.wp Try.prog body3 (Exit.then K Q) ⟨#[u0, .pointer (some ⟨b0, 0, none⟩), u2, u3, u4, u5, u6, u7, u8, .int .i64 (k : Int), .bool ch, .int .i64 (t : Int), u12, u13, u14, u15, u16, u17, u18, u19, u20, u21, u22, u23, u24, u25, u26, u27, u28, u29, u30, u31, u32, u33, u34, u35, u36, u37, u38, u39, u40, u41, u42, u43, u44, u45, u46, u47, u48, u49, u50, u51, u52, u53, u54, u55, u56, u57, u58, u59, u60, u61, u62, u63, u64, u65, u66, u67, u68, u69, u70, u71, u72, u73, u74, u75, u76, u77, u78, u79, u80, u81, u82, u83, u84, u85, u86, u87, u88, u89, u90, u91, u92, u93, u94, u95, u96, u97, u98, u99, u100, u101, u102, u103, u104, u105, u106, u107, u108, u109, u110, u111, u112, u113, u114, u115, u116, u117, u118, u119, u120, u121, u122, u123, u124, u125, u126, u127, u128, u129, u130, u131, u132, u133, u134, u135, u136, u137, u138, u139, u140, u141, u142, u143, u144, u145, u146, u147, u148, u149, u150, u151, u152, u153, u154, u155, u156, u157, u158, u159, u160, u161, u162, u163, u164, u165, u166, u167, u168, u169, u170, u171, u172, u173, u174, u175, u176, u177, u178, u179, u180, u181, u182, u183, u184, u185, u186, u187, u188, u189, u190, u191, u192, u193, u194, u195, u196, u197, u198, u199, u200, u201, u202, u203, u204, u205, u206, u207, u208, u209, u210, u211, u212, u213, u214, u215, u216, u217, u218, u219, u220, u221, u222, u223, u224, u225, u226, u227, u228, u229, u230, u231, u232], []⟩ wr := by
  have H3 := hidM num_any
  have H4 := hidM (fun (d : Cl) v u W (h1 : CS W v d) (h2 : CS W u d) (h3 : d.2.length ≤ 50000) => eqcell_any v u d W h1 h2 (by omega))
  have H6 := hidM (fun (c d : Cl) v u W (h1 : CS W v c) (h2 : CS W u d) (h3 : WfC c) (h4 : WfC d) (h5 : c.2.length ≤ 4000) (h6 : d.2.length ≤ 4000) => join_any ag bo v u c d W h1 h2 h3 h4 (by omega) (by omega))
  have H7 := hidM (fun (c d : Cl) v u W (h1 : CS W v c) (h2 : CS W u d) (h3 : WfC c) (h4 : WfC d) (h5 : c.2.length ≤ 4000) (h6 : d.2.length ≤ 4000) (h7 : chk ag bo c = true) (h8 : chk ag bo d = true) => rjoin_any ag bo v u c d W h1 h2 h3 h4 (by omega) (by omega) h7 h8)
  have H9 := hidM (fun (hw : wayC ag bo = true) (c : Cl) v W (h1 : CS W v c) (h3 : c.2.length ≤ 4000) => (by
    obtain ⟨g1, g6, gb, gb32, gb1⟩ := wayC_bd hw
    have := rcell_any ag bo.toNat v c W h1 (by omega)
    rw [Int.toNat_of_nonneg gb, show mayC ag bo.toNat c = chk ag bo c by unfold chk; rw [hw]; rfl] at this
    exact this : Calls Try.prog 15 #[.int .i64 ag, .int .i64 bo, v] W (BoolR W (chk ag bo c))))
  obtain ⟨q0, q1, q2, q3, q4⟩ := (HB0.out.below HBT.out).cells
  conv => arg 2; whnf
  go_upto_region 22 with fail
  refine reg22 _ W0 wr b0 ag bo p o n cL k t cp cp' c d a a' vv x _ _ _ _ _ _ _ _ _ _ _ _ _ _ _ _ _ _ _ _ _ _ _ _ _ _ _ _ _ _ _ _ _ _ _ _ _ _ _ _ _ _ _ _ _ _ _ _ _ _ _ _ _ _ _ _ _ _ _ _ _ _ _ _ _ _ _ _ _ _ _ _ _ _ _ _ _ _ _ _ _ _ _ _ _ _ _ _ _ _ _ _ _ _ _ _ _ _ _ _ _ _ _ _ _ _ _ _ _ _ _ _ _ _ _ _ _ _ _ _ _ _ _ _ _ _ _ _ _ _ _ _ _ _ _ _ _ _ _ _ _ _ _ _ _ _ _ _ _ _ _ _ _ _ _ _ _ _ _ _ _ _ _ _ _ _ _ _ _ _ _ _ _ _ _ _ _ _ _ _ _ _ _ _ _ _ _ _ _ _ _ _ _ _ _ _ _ _ _ _ _ _ _ _ _ _ _ _ _ _ _ _ _ _ _ _ _ _ _ _ _ _ _ _ _ _ _ _ _ _ HB0 HCC HDD HBT HLC HLD hk0 hki ht0 hti hkn htn hni (hidM ?_)
  intro v119 v120 v121 v122 v123 v124 v125 v126 v127 v128 v129 v130 b12 b13 a12 c12 a13 c13 wa hT
  have HT := hidM hT
  clear q0 q1 q2 q3 q4
  obtain ⟨q0, q1, q2, q3, q4⟩ := (HB0.out.below HT.out.1.bel).cells
  obtain ⟨y0, y1, -, -⟩ := HT.out.1.blk.cells
  obtain ⟨z0, z1, -, -⟩ := HT.out.2.blk.cells
  have H6' := hidM (H6.out c d _ _ wa HT.out.1.cs HT.out.2.cs HWC.out HWD.out HLC.out HLD.out)
  obtain ⟨⟨rc, re⟩, hr⟩ : ∃ r, joinR ag bo c d = r := ⟨_, rfl⟩
  rw [hr] at H6'
  have HR := hidM hr
  simp only at H6'
  clear hr hT
  go_wp2_with (go_at_call 18; refine H6'.out.mono ?_; rintro e W5 ⟨⟨v5, rfl, a5, c5, rfl, ho5⟩, hb5⟩)
  have JF5 := hidM (JF.make HT.out hb5 ho5)
  have BA5 := hidM (nxt hb5 (stp W5 (cellO rc a5 c5)))
  have HL5 := hidM (show wa.heap.size ≤ W5.heap.size from hb5.size)
  have hlt5 := ho5.lt
  have HOL := hidM hlt5
  clear hb5 ho5 hlt5 q0 q1 q2 q3 q4 y0 y1 z0 z1
  have hsz5 : (W5.alloc (cellO rc a5 c5)).heap.size = W5.heap.size + 1 := by simp
  have Z17 := hidM (show BlkC ((W5.alloc (cellO rc a5 c5)).alloc zeroO) (W5.heap.size + 1) 0 (.slice none 0 0) by have := BlkC.new (W5.alloc (cellO rc a5 c5)) 0 (.slice none 0 0); rwa [hsz5] at this)
  have ST6 := hidM (stp (W5.alloc (cellO rc a5 c5)) zeroO)
  have HS5 := hidM hsz5
  clear hsz5
  generalize hW5' : W5.alloc (cellO rc a5 c5) = W5' at *
  generalize hW6 : W5'.alloc zeroO = W6 at *
  clear hW5' hW6
  have JF6 := hidM (JF5.out.next ST6.out)
  have B6 := hidM JF6.out.ta.bel
  have BA6 := hidM (nxt BA5.out ST6.out)
  obtain ⟨m0, m1, m2, m3, m4⟩ := keepL B6.out HB0.out HDD.out
  obtain ⟨dh, hdh⟩ : ∃ dh, chk ag bo d = dh := ⟨_, rfl⟩
  have HDH := hidM hdh
  have H9d := hidM (fun (hw : wayC ag bo = true) W (hb : Below W0.heap.size W0 W) => H9.out hw d _ W (HDD.out.cs hb) HLD.out)
  rw [hdh] at H9d
  clear hdh
  go_cut [154] from 142 to 153 (fun s154 wx => s154 = .bool (ch && dh) ∧ Hid (Below W6.heap.size W6 wx))
  case first =>
    cases ch with
    | false =>
      go_wp2
      go_quiet (fail)
      go_wp2
      go_meet
      exact ⟨rfl, ((Drawn.refl _).step _ |>.below _)⟩
    | true =>
      have hw := (chk_may HCH.out).1
      have HW := hidM hw
      clear hw
      go_wp2
      go_region_held3 (fun W' => LP b0 ag bo p o n cL t d a' cp' W')
        (first | exact keepL (nxt B6.out (drw _)) HB0.out HDD.out | exact keepL (nxt (nxt B6.out (drw _)) hb7) HB0.out HDD.out)
        (first | (go_at_call 15; refine (H9d.out HW.out _ (nxt B6.out (drw _))).mono ?_; rintro e W7 ⟨rfl, hb7⟩))
      go_wp2
      go_meet
      exact ⟨by simp, nxt (drw _) hb7⟩
  case rest =>
    obtain ⟨rfl, HBC⟩ := hcut
    clear m0 m1 m2 m3 m4
    have B7 := hidM (nxt B6.out HBC.out)
    have HLR := hidM (show rc.2.length ≤ 50000 from by
      by_cases h1 : chk ag bo c = true ∧ chk ag bo d = true
      · have := (chk_join h1.1 h1.2 HWC.out HWD.out).2.2.1
        rw [HR.out] at this
        simp only at this
        omega
      · have := HR.out
        unfold joinR at this
        rw [if_neg (by simpa using h1)] at this
        injection this with h2 _
        rw [← h2]
        simp)
    go_upto_if 154 with fail
    go_cut [16, 154] from 155 to 172 (fun s16 s154 wx => s16 = .int .i64 re ∧ Hid (Below wa.heap.size wa wx) ∧ ∃ (a17 : Option Addr) (c17 : Nat), Hid (JF W0 wa.heap.size b12 b13 W5.heap.size c d rc a12 c12 a13 c13 a5 c5 wx) ∧ Hid (BlkC wx (W5.heap.size + 1) rc.1 (.slice a17 rc.2.length c17) ∧ NS wx (.slice a17 rc.2.length c17) rc.2))
    case first =>
      cases hcd : ch && dh with
      | false =>
        have hr := HR.out
        unfold joinR at hr
        rw [HCH.out, HDH.out, hcd] at hr
        simp only [Bool.false_eq_true, if_false] at hr
        injection hr with hr1 hr2
        subst hr1 hr2
        go_wp2
        go_meet
        exact ⟨rfl, nxt BA6.out HBC.out, none, 0, JF6.out.next HBC.out, Z17.out.below HBC.out, none, 0, rfl, .inl rfl⟩
      | true =>
        obtain ⟨hc1, hc2⟩ : ch = true ∧ dh = true := by simpa using hcd
        subst hc1 hc2
        have H7' := hidM (fun W (hb : Below W0.heap.size W0 W) => H7.out c d _ _ W (HCC.out.cs hb) (HDD.out.cs hb) HWC.out HWD.out HLC.out HLD.out HCH.out HDH.out)
        rw [HR.out] at H7'
        simp only at H7'
        clear hcd
        obtain ⟨l0, l1, l2, -, -⟩ := (HB0.out.below B7.out).cells
        obtain ⟨-, ⟨l3, l4⟩, ⟨l5, l6⟩, -⟩ := mkLQ HB0.out HCC.out HDD.out B7.out
        have G17 := hidM (show W0.heap.size ≤ W5.heap.size + 1 from by have h1 := HT.out.1.bel.size; have h2 := HL5.out; omega)
        go_wp2
        go_region_held3 (fun W' => (W'.cell? ⟨b0, 0, none⟩ = some (.int .i64 ag) ∧ W'.cell? ⟨b0, 1, none⟩ = some (.int .i64 bo)) ∧ LQ W0 b0 p o n cL k t c d a cp a' cp' W')
          (first
            | exact ⟨⟨(HB0.out.below (nxt B7.out (drw _))).cells.1, (HB0.out.below (nxt B7.out (drw _))).cells.2.1⟩, mkLQ HB0.out HCC.out HDD.out (nxt B7.out (drw _))⟩
            | exact ⟨⟨(HB0.out.below (nxt (nxt B7.out (drw _)) hb8)).cells.1, (HB0.out.below (nxt (nxt B7.out (drw _)) hb8)).cells.2.1⟩, mkLQ HB0.out HCC.out HDD.out (nxt (nxt B7.out (drw _)) hb8)⟩
            | exact ⟨⟨(HB0.out.below (below_set (nxt (nxt B7.out (drw _)) hb8) G17.out _ _)).cells.1, (HB0.out.below (below_set (nxt (nxt B7.out (drw _)) hb8) G17.out _ _)).cells.2.1⟩, mkLQ HB0.out HCC.out HDD.out (below_set (nxt (nxt B7.out (drw _)) hb8) G17.out _ _)⟩)
          (first | (go_at_call 19; refine (H7'.out _ (nxt B7.out (drw _))).mono ?_; rintro e W8 ⟨⟨v8, rfl, a8, c8, rfl, ho8⟩, hb8⟩; have hX := ((Z17.out.below HBC.out).below (drw _)).below hb8; obtain ⟨x0, x1, fx0, fx1⟩ := hX.cells; obtain ⟨-, x1', -, fx1'⟩ := (hX.set0 rc.1).cells))
        go_wp2
        go_meet
        have hlt : W5.heap.size + 1 < wc.heap.size := (Z17.out.below HBC.out).lt
        exact ⟨rfl, below_set (nxt BA6.out (nxt HBC.out (nxt (drw _) hb8))) (by have := HL5.out; omega) _ _, a8, c8, JF5.out.next (below_set (nxt ST6.out (nxt HBC.out (nxt (drw _) hb8))) (by have := HS5.out; omega) _ _), hX.set, (own_set ho8 hlt _ _).ns⟩
    case rest =>
      obtain ⟨rfl, BAQ, a17, c17, JF8, HB17⟩ := hcut
      obtain ⟨WQ, hWQ⟩ : ∃ WQ, WQ = wc := ⟨_, rfl⟩
      subst hWQ
      have BQ := hidM JF8.out.ta.bel
      have E1 := hidM (fun W (hb : Below WQ.heap.size WQ W) => H4.out rc _ _ W ⟨a5, c5, rfl, (JF8.out.next hb).ox.ns⟩ ⟨a17, c17, rfl, HB17.out.2.below hb⟩ HLR.out)
      have E2 := hidM (fun W (hb : Below WQ.heap.size WQ W) => H4.out c _ _ W (JF8.out.next hb).ta.cs (HCC.out.cs (nxt BQ.out hb)) (by have := HLC.out; omega))
      have E3 := hidM (fun W (hb : Below WQ.heap.size WQ W) => H4.out d _ _ W (JF8.out.next hb).tb.cs (HDD.out.cs (nxt BQ.out hb)) (by have := HLD.out; omega))
      have SS := hidM (fun W (hb : Below WQ.heap.size WQ W) => (⟨JF8.out.next hb |>.bx.two, (HB17.out.1.below hb).two, (JF8.out.next hb).ta.two, (JF8.out.next hb).tb.two, mkLQ HB0.out HCC.out HDD.out (nxt BQ.out hb), hb⟩ : TwoP W5.heap.size rc a5 c5 W ∧ TwoP (W5.heap.size + 1) rc a17 c17 W ∧ TwoP b12 c a12 c12 W ∧ TwoP b13 d a13 c13 W ∧ LQ W0 b0 p o n cL k t c d a cp a' cp' W ∧ Below WQ.heap.size WQ W))
      obtain ⟨⟨y0, y1⟩, ⟨y2, y3⟩, ⟨y4, y5⟩, ⟨y6, y7⟩, ⟨l2, ⟨l3, l4⟩, ⟨l5, l6⟩, -⟩, -⟩ := SS.out WQ (Below.refl _ _)
      go_wp2
      go_region_held3 (fun W => TwoP W5.heap.size rc a5 c5 W ∧ TwoP (W5.heap.size + 1) rc a17 c17 W ∧ TwoP b12 c a12 c12 W ∧ TwoP b13 d a13 c13 W ∧ LQ W0 b0 p o n cL k t c d a cp a' cp' W ∧ Below WQ.heap.size WQ W)
        (first
          | exact SS.out _ (drw _)
          | exact SS.out _ (nxt (drw _) hb9)
          | exact SS.out _ (nxt (nxt (drw _) hb9) hb10)
          | exact SS.out _ (nxt (nxt (nxt (drw _) hb9) hb10) hb11))
        (first
          | (go_at_call 13; refine (H3.out _ _).mono ?_; rintro e w' ⟨rfl, rfl⟩)
          | (go_at_call 14; (with_reducible refine (E1.out _ (drw _)).mono ?_); rintro e W9 ⟨rfl, hb9⟩)
          | (go_at_call 14; (with_reducible refine (E2.out _ (nxt (drw _) hb9)).mono ?_); rintro e W10 ⟨rfl, hb10⟩)
          | (go_at_call 14; (with_reducible refine (E3.out _ (nxt (nxt (drw _) hb9) hb10)).mono ?_); rintro e W11 ⟨rfl, hb11⟩))
      have HBZ := hidM (nxt (nxt (nxt (drw WQ) hb9) hb10) hb11)
      clear hb9 hb10 hb11 y0 y1 y2 y3 y4 y5 y6 y7 l2 l3 l4 l5 l6
      have LX0 := hidM (⟨nxt BAQ.out HBZ.out, JF8.out.bx.below HBZ.out, (JF8.out.next HBZ.out).ox, rfl⟩ : LX wa W5.heap.size rc.1 rc.2.length a5 c5 rc.2 W11)
      have hlen := HLR.out
      obtain ⟨mm, hmm⟩ : ∃ mm, rc.2.length = mm := ⟨_, rfl⟩
      rw [hmm] at hlen LX0
      have HMM := hidM hmm
      clear hmm
      obtain ⟨y0, y1, -, -⟩ := LX0.out.blk.cells
      go_wp2
      go_loopw [18] (fun s wr => ∃ (j : Nat) (l' : List Int), j ≤ mm ∧ s = .int .i64 (j : Int) ∧ Hid (LX wa W5.heap.size rc.1 mm a5 c5 l' wr)) (fun s _ => mm - (intOf s).toNat)
      case atStart => exact ⟨0, _, by omega, rfl, LX0⟩
      case round =>
        obtain ⟨j, l', hj, rfl, HX⟩ := hrel
        obtain ⟨y0, y1, -, -⟩ := HX.out.blk.cells
        by_cases hlt : j < mm
        · obtain ⟨g, y, rfl, hcg, hfg⟩ := HX.out.at hlt
          have HG := hidM (HOL.out g rfl)
          have hj0 : (0 : Int) ≤ j := by omega
          have hji : (j : Int) < mm := by omega
          go_wp2
          go_roundw
          case rel => exact ⟨j + 1, _, by omega, by go_num, HX.out.put HG.out j (-77)⟩
          case measure => simp [intOf]; omega
        · obtain rfl : j = mm := by omega
          have TA := hidM (HT.out.1.next HX.out.bel)
          have TBB := hidM (HT.out.2.next HX.out.bel)
          have BQ2 := hidM TA.out.bel
          have F2 := hidM (fun W (hb : Below wr.heap.size wr W) => H4.out c _ _ W (TA.out.next hb).cs (HCC.out.cs (nxt BQ2.out hb)) (by have := HLC.out; omega))
          have F3 := hidM (fun W (hb : Below wr.heap.size wr W) => H4.out d _ _ W (TBB.out.next hb).cs (HDD.out.cs (nxt BQ2.out hb)) (by have := HLD.out; omega))
          have S2 := hidM (fun W (hb : Below wr.heap.size wr W) => (⟨(TA.out.next hb).two, (TBB.out.next hb).two, mkLQ HB0.out HCC.out HDD.out (nxt BQ2.out hb), hb⟩ : TwoP b12 c a12 c12 W ∧ TwoP b13 d a13 c13 W ∧ LQ W0 b0 p o n cL k t c d a cp a' cp' W ∧ Below wr.heap.size wr W))
          obtain ⟨⟨y4, y5⟩, ⟨y6, y7⟩, ⟨l2, ⟨l3, l4⟩, ⟨l5, l6⟩, -⟩, -⟩ := S2.out wr (Below.refl _ _)
          go_wp2
          go_region_held3 (fun W => TwoP b12 c a12 c12 W ∧ TwoP b13 d a13 c13 W ∧ LQ W0 b0 p o n cL k t c d a cp a' cp' W ∧ Below wr.heap.size wr W)
            (first
              | exact S2.out _ (drw _)
              | exact S2.out _ (nxt (drw _) hb9)
              | exact S2.out _ (nxt (nxt (drw _) hb9) hb10))
            (first
              | (go_at_call 14; (with_reducible refine (F2.out _ (drw _)).mono ?_); rintro e W9 ⟨rfl, hb9⟩)
              | (go_at_call 14; (with_reducible refine (F3.out _ (nxt (drw _) hb9)).mono ?_); rintro e W10 ⟨rfl, hb10⟩))
          have HBF := hidM (nxt BQ2.out (nxt (nxt (drw _) hb9) hb10))
          clear hb9 hb10 y4 y5 y6 y7 l2 l3 l4 l5 l6
          go_wp2
          exact HK.out _ _ _ _ _ _ _ _ _ _ _ _ _ _ _ _ _ _ _ _ _ _ _ _ _ _ _ _ _ _ _ _ _ _ _ _ _ _ _ _ _ _ _ _ _ _ _ _ _ _ _ _ _ _ _ _ _ _ _ _ _ _ _ _ _ _ _ _ _ _ _ _ _ _ _ _ _ _ _ _ _ _ _ _ _ _ _ _ _ _ _ _ _ _ _ _ _ _ _ _ _ _ _ _ _ _ _ _ _ _ _ _ _ _ _ _ _ _ _ _ _ _ _ _ _ _ _ _ _ _ _ _ HBF.out
end Go.Proofs.Ythgfngbgohacaaa
