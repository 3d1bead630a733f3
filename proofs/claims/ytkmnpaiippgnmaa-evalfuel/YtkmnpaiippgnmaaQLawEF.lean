/- EvalFuel: the walk. -/
import Derived.Test.YtkmnpaiippgnmaaQEFuel
import Derived.Test.YtkmnpaiippgnmaaQB
namespace Go.Proofs.Ytkmnpaiippgnmaa
open Go.RowKit
set_option linter.unusedVariables false
set_option maxRecDepth 100000

theorem RS.addr' {w : World} {a : Option Addr} {n cap k : Nat} {l : List Rc} {y : Rc} (h : RS w (.slice a n cap) l) (hk : l[k]? = some y) : ∃ b off, a = some ⟨b, off, none⟩ := by
  obtain ⟨a', cap', e, h⟩ := h
  rcases h with rfl | ⟨b', off', rfl, _, _⟩
  · simp at hk
  · injection e with e1 _ _
    exact ⟨_, _, e1⟩
/-- What a round reads. -/
theorem keepF {w W : World} {vs vl vf : Value} {br or' nr cr : Nat} {l : List ByteArray} {f : Fo} {lr : List Rc} {lf : List Int} {k : Nat} {ya : Int} {yb : ByteArray} {yv : Int}
    (h : AskE vs vl (.slice (some ⟨br, or', none⟩) nr cr) vf l f lr lf w W) (hy : lr[k]? = some ((ya, yb), yv)) :
    W.cell? ⟨w.heap.size, 2, none⟩ = some (.slice (some ⟨br, or', none⟩) nr cr) ∧ W.cell? ⟨br, or' + k * 3, none⟩ = some (.int .i64 ya) ∧ W.cell? ⟨br, or' + k * 3 + 1, none⟩ = some (.string yb) ∧ W.cell? ⟨br, or' + k * 3 + 2, none⟩ = some (.int .i64 yv) := by
  obtain ⟨_, c1, c2, c3⟩ := h.cells
  obtain ⟨d0, d1, d2⟩ := h.inn.r.1.at k _ hy
  exact ⟨c2, d0, d1, d2⟩
theorem num8r (n m : Int) (w : World) : Calls Try.prog 15 #[.int .i64 n, .int .i64 m] w fun e w' => e = .returned (.bool (decide (0 ≤ n) && decide (n ≤ m))) ∧ w' = w := by
  by_cases h : 0 ≤ n
  · have hd : decide (0 ≤ n) = true := decide_eq_true h
    rw [hd]
    go_enter Try.func15, Try.ntmps15
    go_wp2
    go_ret
    exact ⟨by simp, rfl⟩
  · have hd : decide (0 ≤ n) = false := decide_eq_false h
    rw [hd]
    go_enter Try.func15, Try.ntmps15
    go_wp2
    go_ret
    exact ⟨by simp, rfl⟩
set_option maxHeartbeats 4000000 in
theorem lawef (vs vl vr vf : Value) (l : List ByteArray) (f : Fo) (lr : List Rc) (lf : List Int) (w : World) (h : In8 w vs vl vr vf l f lr lf) :
    Calls Try.prog 4 #[.agg #[vs, vl, vr, vf]] w fun e w' => e = .returned (.bool true) ∧ Below w.heap.size w w' := by
  have Hn := hidM num8_any
  have hA0 := AskE.start h
  have HA0 := hidM hA0
  have Hh := hidM (heavy8_any vs vl vr vf l f lr lf _ hA0.inn)
  have hl := h.s.2.1
  have HWS := hidM h.s.2.2
  have HWB := hidM h.f.2.2.1
  have hfl := h.f.2.1
  have hlr := h.r.2.1
  have hlf := h.n.2.1
  have HWR := hidM h.r.2.2
  obtain ⟨a, cap, hvs, _⟩ := h.s.1
  obtain ⟨a', cap', hvl⟩ := h.f.1.val
  obtain ⟨ar, capr, hvr, _⟩ := h.r.1
  obtain ⟨af, capf, hvf, _⟩ := h.n.1
  subst hvs hvl hvr hvf
  clear h hA0
  go_enter Try.func4, Try.ntmps4
  go_wp2_with (go_at_call 9; refine Hh.out.mono ?_)
  rintro e w1 ⟨⟨r, rfl⟩, hb1⟩
  have hA1 := HA0.out.call hb1
  cases r with
  | true =>
    go_wp2
    go_ret
    exact ⟨rfl, hA1.out⟩
  | false =>
    have HA1 := hidM hA1
    clear hA1 hb1 Hh
    go_wp2
    go_loopw [3] (fun i wr => ∃ q : Nat, q ≤ l.length ∧ q ≤ 8 ∧ i = .int .i64 q ∧ AskE (.slice a l.length cap) (.slice a' f.len cap') (.slice ar lr.length capr) (.slice af lf.length capf) l f lr lf w wr) (fun i _ => 8 - (intOf i).toNat)
    case atStart => exact ⟨0, by omega, by omega, rfl, HA1.out⟩
    case round =>
      obtain ⟨q, hq, hq8, rfl, hA⟩ := hrel
      obtain ⟨c0, c1, c2, c3⟩ := hA.cells
      have HB := hidM hA
      have hwr0 := hA.lt
      by_cases hlt : q < l.length ∧ q < 8
      · obtain ⟨hlt, hlt8⟩ := hlt
        obtain ⟨y, hy⟩ := getSome hlt
        obtain ⟨g, o, hae, hgl, hat⟩ : ∃ g o, a = some ⟨g, o, none⟩ ∧ g < wr.heap.size ∧ StrsAt wr g o l := by
          obtain ⟨a0, cap0, e0, h0⟩ := hA.inn.s.1
          injection e0 with e0 _ _
          subst e0
          rcases h0 with h0 | ⟨g, o, h1, h2, h3⟩
          · subst h0; simp at hlt
          · exact ⟨g, o, h1, h2, h3⟩
        subst hae
        have cy := hat q y hy
        have hys := HWS.out y (List.mem_of_getElem? hy)
        have Hp := hidM (rparse_any y wr hys (by omega))
        have hq0 : (0 : Int) ≤ q := by omega
        have hqi : (q : Int) < l.length := by omega
        have hq1 : (q : Int) < 8 := by omega
        clear hA hat hy
        go_wp2_with (go_at_call 10; refine Hp.out.mono ?_)
        rintro e w3 ⟨rr, hp, hb3, hres⟩
        have hA3 := HB.out.call hb3
        have HA3 := hidM hA3
        have HP := hidM hp
        clear c0 c1 c2 c3 cy hp
        cases rr with
        | err c =>
          obtain ⟨rfl, hc0⟩ := hres
          have hce : (c != 0) = true := by simpa using hc0
          clear hb3 hc0 hA3
          go_wp2
          go_roundw
          case rel => exact ⟨q + 1, by omega, by omega, by go_num, HA3.out⟩
          case measure => simp [intOf]; omega
        | ok gf ws m =>
          obtain ⟨v3, rfl, hown3⟩ := hres
          obtain ⟨_, _, hOl, hwb⟩ := prog_ok HP.out
          have HFO := hidM hown3.fs.arg
          have HOW := hidM hwb
          obtain ⟨a3, cap3, rfl⟩ := hown3.len
          clear hb3 hown3 hwb hA3
          go_wp2
          go_loopw [6] (fun i W => ∃ k : Nat, k ≤ lr.length ∧ k ≤ 8 ∧ i = .int .i64 k ∧ AskE (.slice (some ⟨g, o, none⟩) l.length cap) (.slice a' f.len cap') (.slice ar lr.length capr) (.slice af lf.length capf) l f lr lf w W ∧ FS QA W (.slice a3 gf.len cap3) gf) (fun i _ => 8 - (intOf i).toNat)
          case atStart => exact ⟨0, by omega, by omega, rfl, HA3.out, HFO.out⟩
          case round =>
            obtain ⟨k, hk1, hk3, rfl, hAk, hFk⟩ := hrel
            rename World => W0
            have HAk := hidM hAk
            by_cases hkl : k < lr.length ∧ k < 8
            · obtain ⟨hkr, hk8⟩ := hkl
              obtain ⟨⟨⟨ya, yb⟩, yv⟩, hy⟩ := getSome hkr
              obtain ⟨br, or', rfl⟩ := hAk.inn.r.1.addr' hy
              have hyb := (HWR.out _ (List.mem_of_getElem? hy)).txt
              simp only at hyb
              have HRn := hidM (fun W (fu : Int) (hF : FS QA W (.slice a3 gf.len cap3) gf) => run_any gf _ W ((ya, yb), yv) fu hF hOl HOW.out hyb)
              have HFk := hidM hFk
              have hk0 : (0 : Int) ≤ k := by omega
              have hkri : (k : Int) < lr.length := by omega
              have hk8i : (k : Int) < 8 := by omega
              have HY := hidM hy
              have hlen := runR_len gf ((ya, yb), yv) 2000
              obtain ⟨⟨e0, n0, l0⟩, hT⟩ : ∃ t, runR gf ((ya, yb), yv) 2000 = t := ⟨_, rfl⟩
              have hr1 := HRn.out W0 2000 hFk
              rw [hT] at hr1 hlen
              have HT := hidM hT
              obtain ⟨c2, d0, d1, d2⟩ := keepF hAk hy
              clear hAk hFk hy hyb hT
              go_wp2_with fail
              refine hr1.mono ?_
              rintro e wA ⟨vA, heA, hownA, hbA⟩
              simp only at heA hownA hlen
              subst heA
              have HA1 := hidM (HAk.out.call hbA)
              have HFA := hidM (HFk.out.below hbA)
              have HRSA := hidM (RS.own hownA)
              obtain ⟨aA, capA, rfl⟩ := row_val hownA
              clear hownA hbA hr1 c2 d0 d1 d2
              by_cases he0 : e0 = 0
              · subst he0
                obtain ⟨⟨t1, t2⟩, t3, t4⟩ := run_took HT.out
                have hdn : (decide (0 ≤ n0) && decide (n0 ≤ 2000)) = true := by simp; omega
                have HNm := hidM (num8r n0 2000)
                rw [hdn] at HNm
                obtain ⟨c2, d0, d1, d2⟩ := keepF HA1.out HY.out
                have hr2 := HRn.out wA (2000 - n0) HFA.out
                rw [t3] at hr2
                have HR2 := hidM hr2
                have T4 := hidM t4
                clear hr2 t3 t4 hdn
                go_wp2_with (first | (go_at_call 14; refine (Hn.out _ _).mono ?_; rintro e w' ⟨rfl, rfl⟩) | (go_at_call 15; refine (HNm.out _).mono ?_; rintro e w' ⟨rfl, rfl⟩) | (go_at_call 13; refine HR2.out.mono ?_))
                rintro e wB ⟨vB, heB, hownB, hbB⟩
                simp only at heB hownB
                subst heB
                have HA2 := hidM (HA1.out.call hbB)
                have HFB := hidM (HFA.out.below hbB)
                have HQ := hidM (eqrecs_any _ _ l0 wB (RS.own hownB) (HRSA.out.below hbB) (by omega))
                obtain ⟨aB, capB, rfl⟩ := row_val hownB
                clear hownB hbB HR2 c2 d0 d1 d2 HNm
                by_cases ht : 0 < 2000 - n0
                · have ht' : n0 < 2000 := by omega
                  have t4 := T4.out ht
                  have HT4 := hidM t4
                  clear t4 T4
                  go_wp2_with (first | (go_at_call 14; refine (Hn.out _ _).mono ?_; rintro e w' ⟨rfl, rfl⟩) | (go_at_call 16; refine HQ.out.mono ?_))
                  rintro e wC ⟨rfl, hdC⟩
                  have HA4 := hidM (HA2.out.call hdC.low)
                  have HFC := hidM (HFB.out.below hdC.low)
                  obtain ⟨c2, d0, d1, d2⟩ := keepF HA4.out HY.out
                  have hr3 := HRn.out wC (2000 - n0 - 1) HFC.out
                  rw [HT4.out] at hr3
                  have HR3 := hidM hr3
                  clear hr3 hdC HQ
                  go_wp2_with (go_at_call 13; refine HR3.out.mono ?_)
                  rintro e wD ⟨vD, heD, hownD, hbD⟩
                  simp only at heD hownD
                  subst heD
                  have HA5 := hidM (HA4.out.call hbD)
                  have HFD := hidM (HFC.out.below hbD)
                  obtain ⟨aD, capD, rfl⟩ := row_val hownD
                  simp only [List.length_nil]
                  clear hownD hbD HR3 c2 d0 d1 d2
                  go_wp2_with (go_at_call 14; refine (Hn.out _ _).mono ?_; rintro e w' ⟨rfl, rfl⟩)
                  go_roundw
                  case rel => exact ⟨k + 1, by omega, by omega, by go_num, HA5.out, HFD.out⟩
                  case measure => simp [intOf]; omega
                · have ht' : 2000 ≤ n0 := by omega
                  clear ht T4
                  go_wp2_with (first | (go_at_call 14; refine (Hn.out _ _).mono ?_; rintro e w' ⟨rfl, rfl⟩) | (go_at_call 16; refine HQ.out.mono ?_))
                  rintro e wC ⟨rfl, hdC⟩
                  have HA4 := hidM (HA2.out.call hdC.low)
                  have HFC := hidM (HFB.out.below hdC.low)
                  clear hdC HQ
                  go_wp2
                  go_roundw
                  case rel => exact ⟨k + 1, by omega, by omega, by go_num, HA4.out, HFC.out⟩
                  case measure => simp [intOf]; omega
              · have hne : (e0 != 0) = true := by simpa using he0
                clear he0
                go_wp2_with (go_at_call 14; refine (Hn.out _ _).mono ?_; rintro e w' ⟨rfl, rfl⟩)
                go_roundw
                case rel => exact ⟨k + 1, by omega, by omega, by go_num, HA1.out, HFA.out⟩
                case measure => simp [intOf]; omega
            · have hway : ((lr.length : Int) ≤ (k : Int)) ∨ ((k : Int) < (lr.length : Int) ∧ (8 : Int) ≤ (k : Int)) := by omega
              obtain ⟨c0, c1, c2, c3⟩ := hAk.cells
              clear hkl hAk hFk
              rcases hway with j1 | ⟨j1, j2⟩
              all_goals
                go_wp2
                clear c0 c1 c2 c3
                go_roundw
                case rel => exact ⟨q + 1, by omega, by omega, by go_num, HAk.out⟩
                case measure => simp [intOf]; omega
      · have Hw := hidM (wakes8_any wr)
        have hway2 : ((l.length : Int) ≤ (q : Int)) ∨ ((q : Int) < (l.length : Int) ∧ (8 : Int) ≤ (q : Int)) := by omega
        clear hlt hA
        rcases hway2 with g1 | ⟨g1, g2⟩
        all_goals
          go_wp2_with (go_at_call 12; refine Hw.out.mono ?_)
          rintro e w9 ⟨rfl, hb9⟩
          have hfin := HB.out.out.trans (hb9.mono (by omega))
          go_wp2
          go_ret
          exact ⟨rfl, hfin⟩
end Go.Proofs.Ytkmnpaiippgnmaa
