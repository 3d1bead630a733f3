/- EvalRuns: the walk. -/
import Derived.Test.YtkmnpaiippgnmaaQERun8
namespace Go.Proofs.Ytkmnpaiippgnmaa
open Go.RowKit
set_option linter.unusedVariables false
set_option maxRecDepth 100000

theorem NS.at {w : World} {b off n cap : Nat} {l : List Int} (h : NS w (.slice (some ⟨b, off, none⟩) n cap) l) : NumsAt w b off l := by
  obtain ⟨a, cap', e, h⟩ := h
  rcases h with rfl | ⟨b', off', rfl, _, hat⟩
  · intro i y hy; simp at hy
  · injection e with e1 e2 e3
    injection e1 with e1
    injection e1 with e1 e4
    subst e1 e4
    exact hat
theorem RS.addr {w : World} {a : Option Addr} {n cap k : Nat} {l : List Rc} {y : Rc} (h : RS w (.slice a n cap) l) (hk : l[k]? = some y) : ∃ b off, a = some ⟨b, off, none⟩ := by
  obtain ⟨a', cap', e, h⟩ := h
  rcases h with rfl | ⟨b', off', rfl, _, _⟩
  · simp at hk
  · injection e with e1 _ _
    exact ⟨_, _, e1⟩
theorem NS.addr {w : World} {a : Option Addr} {n cap k : Nat} {l : List Int} {y : Int} (h : NS w (.slice a n cap) l) (hk : l[k]? = some y) : ∃ b off, a = some ⟨b, off, none⟩ := by
  obtain ⟨a', cap', e, h⟩ := h
  rcases h with rfl | ⟨b', off', rfl, _, _⟩
  · simp at hk
  · injection e with e1 _ _
    exact ⟨_, _, e1⟩
theorem AskE.drew1 {w wr : World} {vs vl vr vf : Value} {l : List ByteArray} {f : Fo} {lr : List Rc} {lf : List Int} (h : AskE vs vl vr vf l f lr lf w wr) : AskE vs vl vr vf l f lr lf w wr.drew :=
  h.call ⟨rfl, rfl, rfl, Nat.le_refl _, fun _ _ => rfl⟩
/-- What a round reads. -/
theorem keepR {w W : World} {vs vl : Value} {br or' nr cr bf of' nf cf : Nat} {l : List ByteArray} {f : Fo} {lr : List Rc} {lf : List Int} {k : Nat} {ya : Int} {yb : ByteArray} {yv z : Int}
    (h : AskE vs vl (.slice (some ⟨br, or', none⟩) nr cr) (.slice (some ⟨bf, of', none⟩) nf cf) l f lr lf w W) (hy : lr[k]? = some ((ya, yb), yv)) (hz : lf[k]? = some z) :
    W.cell? ⟨w.heap.size, 1, none⟩ = some vl ∧ W.cell? ⟨w.heap.size, 2, none⟩ = some (.slice (some ⟨br, or', none⟩) nr cr) ∧ W.cell? ⟨w.heap.size, 3, none⟩ = some (.slice (some ⟨bf, of', none⟩) nf cf) ∧
    W.cell? ⟨br, or' + k * 3, none⟩ = some (.int .i64 ya) ∧ W.cell? ⟨br, or' + k * 3 + 1, none⟩ = some (.string yb) ∧ W.cell? ⟨br, or' + k * 3 + 2, none⟩ = some (.int .i64 yv) ∧ W.cell? ⟨bf, of' + k, none⟩ = some (.int .i64 z) := by
  obtain ⟨_, c1, c2, c3⟩ := h.cells
  obtain ⟨d0, d1, d2⟩ := h.inn.r.1.at k _ hy
  have e0 := h.inn.n.1.at k _ hz
  exact ⟨c1, c2, c3, d0, d1, d2, e0⟩
set_option maxHeartbeats 4000000 in
theorem lawer (vs vl vr vf : Value) (l : List ByteArray) (f : Fo) (lr : List Rc) (lf : List Int) (w : World) (h : In8 w vs vl vr vf l f lr lf) :
    Calls Try.prog 3 #[.agg #[vs, vl, vr, vf]] w fun e w' => e = .returned (.bool true) ∧ Below w.heap.size w w' := by
  have hA0 := AskE.start h
  have HA0 := hidM hA0
  have Hh := hidM (heavy8_any vs vl vr vf l f lr lf _ hA0.inn)
  have hl := h.s.2.1
  have HWS := hidM h.s.2.2
  have HWB := hidM h.f.2.2.1
  have hfl := h.f.2.1
  have hlr := h.r.2.1
  have hlf := h.n.2.1
  have HWR := hidM h.r.2.2
  obtain ⟨a, cap, hvs, _⟩ := h.s.1
  obtain ⟨a', cap', hvl⟩ := h.f.1.val
  obtain ⟨ar, capr, hvr, _⟩ := h.r.1
  obtain ⟨af, capf, hvf, _⟩ := h.n.1
  subst hvs hvl hvr hvf
  clear h hA0
  go_enter Try.func3, Try.ntmps3
  go_wp2_with (go_at_call 9; refine Hh.out.mono ?_)
  rintro e w1 ⟨⟨r, rfl⟩, hb1⟩
  have hA1 := HA0.out.call hb1
  cases r with
  | true =>
    go_wp2
    go_ret
    exact ⟨rfl, hA1.out⟩
  | false =>
    have HA1 := hidM hA1
    clear hA1 hb1 Hh
    go_wp2
    go_loopw [3] (fun i wr => ∃ q : Nat, q ≤ l.length ∧ q ≤ 8 ∧ i = .int .i64 q ∧ AskE (.slice a l.length cap) (.slice a' f.len cap') (.slice ar lr.length capr) (.slice af lf.length capf) l f lr lf w wr) (fun i _ => 8 - (intOf i).toNat)
    case atStart => exact ⟨0, by omega, by omega, rfl, HA1.out⟩
    case round =>
      obtain ⟨q, hq, hq8, rfl, hA⟩ := hrel
      obtain ⟨c0, c1, c2, c3⟩ := hA.cells
      have HB := hidM hA
      have hwr0 := hA.lt
      by_cases hlt : q < l.length ∧ q < 8
      · obtain ⟨hlt, hlt8⟩ := hlt
        obtain ⟨y, hy⟩ := getSome hlt
        obtain ⟨g, o, hae, hgl, hat⟩ : ∃ g o, a = some ⟨g, o, none⟩ ∧ g < wr.heap.size ∧ StrsAt wr g o l := by
          obtain ⟨a0, cap0, e0, h0⟩ := hA.inn.s.1
          injection e0 with e0 _ _
          subst e0
          rcases h0 with h0 | ⟨g, o, h1, h2, h3⟩
          · subst h0; simp at hlt
          · exact ⟨g, o, h1, h2, h3⟩
        subst hae
        have cy := hat q y hy
        have hys := HWS.out y (List.mem_of_getElem? hy)
        have Hp := hidM (rparse_any y wr hys (by omega))
        have hq0 : (0 : Int) ≤ q := by omega
        have hqi : (q : Int) < l.length := by omega
        have hq1 : (q : Int) < 8 := by omega
        clear hA hat hy
        go_wp2_with (go_at_call 10; refine Hp.out.mono ?_)
        rintro e w3 ⟨rr, hp, hb3, hres⟩
        have hA3 := HB.out.call hb3
        have HA3 := hidM hA3
        have HP := hidM hp
        clear c0 c1 c2 c3 cy hp
        cases rr with
        | err c =>
          obtain ⟨rfl, hc0⟩ := hres
          have hce : (c != 0) = true := by simpa using hc0
          obtain ⟨c0, c1, c2, c3⟩ := hA3.cells
          have HFO := hidM hA3.inn.f.1
          have hOl := hfl
          have HOW := HWB
          clear hb3 hc0 hA3
          go_wp2
          clear c0 c1 c2 c3
          go_loopw [6] (fun i W => ∃ k : Nat, k ≤ lr.length ∧ k ≤ lf.length ∧ k ≤ 8 ∧ i = .int .i64 k ∧ AskE (.slice (some ⟨g, o, none⟩) l.length cap) (.slice a' f.len cap') (.slice ar lr.length capr) (.slice af lf.length capf) l f lr lf w W ∧ FS QA W (.slice a' f.len cap') f) (fun i _ => 8 - (intOf i).toNat)
          case atStart => exact ⟨0, by omega, by omega, by omega, rfl, HA3.out, HFO.out⟩
          case round =>
            obtain ⟨k, hk1, hk2, hk3, rfl, hAk, hFk⟩ := hrel
            rename World => W0
            obtain ⟨c0, c1, c2, c3⟩ := hAk.cells
            have HAk := hidM hAk
            by_cases hkl : k < lr.length ∧ k < lf.length ∧ k < 8
            · obtain ⟨hkr, hkf, hk8⟩ := hkl
              obtain ⟨⟨⟨ya, yb⟩, yv⟩, hy⟩ := getSome hkr
              obtain ⟨z, hz⟩ := getSome hkf
              obtain ⟨br, or', rfl⟩ := hAk.inn.r.1.addr hy
              obtain ⟨bf, of', rfl⟩ := hAk.inn.n.1.addr hz
              have hyb := (HWR.out _ (List.mem_of_getElem? hy)).txt
              simp only at hyb
              have hR1 := hidM (run8_any f _ W0.drew ((ya, yb), yv) z (hFk.below ⟨rfl, rfl, rfl, Nat.le_refl _, fun _ _ => rfl⟩) hOl HOW.out hyb)
              have hR2 := hidM (fun W (hA : AskE (.slice (some ⟨g, o, none⟩) l.length cap) (.slice a' f.len cap') (.slice (some ⟨br, or', none⟩) lr.length capr) (.slice (some ⟨bf, of', none⟩) lf.length capf) l f lr lf w W) => run8_any f _ W ((ya, yb), yv) z hA.inn.f.1 hfl HWB.out hyb)
              have HFk := hidM hFk
              have hk0 : (0 : Int) ≤ k := by omega
              have hkri : (k : Int) < lr.length := by omega
              have hkfi : (k : Int) < lf.length := by omega
              have hk8i : (k : Int) < 8 := by omega
              have HY := hidM hy
              have HZ := hidM hz
              clear hAk hFk hy hz hyb
              go_wp2
              go_region_held3 (fun W' => W'.cell? ⟨w.heap.size, 1, none⟩ = some (.slice a' f.len cap') ∧ W'.cell? ⟨w.heap.size, 2, none⟩ = some (.slice (some ⟨br, or', none⟩) lr.length capr) ∧ W'.cell? ⟨w.heap.size, 3, none⟩ = some (.slice (some ⟨bf, of', none⟩) lf.length capf) ∧
                  W'.cell? ⟨br, or' + k * 3, none⟩ = some (.int .i64 ya) ∧ W'.cell? ⟨br, or' + k * 3 + 1, none⟩ = some (.string yb) ∧ W'.cell? ⟨br, or' + k * 3 + 2, none⟩ = some (.int .i64 yv) ∧ W'.cell? ⟨bf, of' + k, none⟩ = some (.int .i64 z))
                (first
                  | exact keepR HAk.out.drew1 HY.out HZ.out
                  | exact keepR (HAk.out.drew1.call hbA) HY.out HZ.out
                  | exact keepR ((HAk.out.drew1.call hbA).call hbB) HY.out HZ.out)
                (first
                  | (go_at_call 11; refine (hR2.out _ (HAk.out.drew1.call hbA)).mono ?_; rintro e wB ⟨rfl, hbB⟩)
                  | (go_at_call 11; refine hR1.out.mono ?_; rintro e wA ⟨rfl, hbA⟩))
              all_goals
                have HAz := hidM ((HAk.out.drew1.call hbA).call hbB)
                have HFz := hidM (((HFk.out.below (w' := W0.drew) ⟨rfl, rfl, rfl, Nat.le_refl _, fun _ _ => rfl⟩).below hbA).below hbB)
                clear hbA hbB c0 c1 c2 c3
                go_wp2
                go_roundw
                case rel => exact ⟨k + 1, by omega, by omega, by omega, by go_num, HAz.out, HFz.out⟩
                case measure => simp [intOf]; omega
            · have hway : ((lr.length : Int) ≤ (k : Int)) ∨ ((k : Int) < (lr.length : Int) ∧ (lf.length : Int) ≤ (k : Int)) ∨ ((k : Int) < (lr.length : Int) ∧ (k : Int) < (lf.length : Int) ∧ (8 : Int) ≤ (k : Int)) := by omega
              clear hkl hAk hFk
              rcases hway with j1 | ⟨j1, j2⟩ | ⟨j1, j2, j3⟩
              all_goals
                go_wp2
                clear c0 c1 c2 c3
                go_roundw
                case rel => exact ⟨q + 1, by omega, by omega, by go_num, HAk.out⟩
                case measure => simp [intOf]; omega
        | ok gf ws m =>
          obtain ⟨v3, rfl, hown3⟩ := hres
          obtain ⟨_, _, hOl, hwb⟩ := prog_ok HP.out
          have HFO := hidM hown3.fs.arg
          have HOW := hidM hwb
          obtain ⟨a3, cap3, rfl⟩ := hown3.len
          clear hb3 hown3 hwb hA3
          go_wp2
          go_loopw [6] (fun i W => ∃ k : Nat, k ≤ lr.length ∧ k ≤ lf.length ∧ k ≤ 8 ∧ i = .int .i64 k ∧ AskE (.slice (some ⟨g, o, none⟩) l.length cap) (.slice a' f.len cap') (.slice ar lr.length capr) (.slice af lf.length capf) l f lr lf w W ∧ FS QA W (.slice a3 gf.len cap3) gf) (fun i _ => 8 - (intOf i).toNat)
          case atStart => exact ⟨0, by omega, by omega, by omega, rfl, HA3.out, HFO.out⟩
          case round =>
            obtain ⟨k, hk1, hk2, hk3, rfl, hAk, hFk⟩ := hrel
            rename World => W0
            obtain ⟨c0, c1, c2, c3⟩ := hAk.cells
            have HAk := hidM hAk
            by_cases hkl : k < lr.length ∧ k < lf.length ∧ k < 8
            · obtain ⟨hkr, hkf, hk8⟩ := hkl
              obtain ⟨⟨⟨ya, yb⟩, yv⟩, hy⟩ := getSome hkr
              obtain ⟨z, hz⟩ := getSome hkf
              obtain ⟨br, or', rfl⟩ := hAk.inn.r.1.addr hy
              obtain ⟨bf, of', rfl⟩ := hAk.inn.n.1.addr hz
              have hyb := (HWR.out _ (List.mem_of_getElem? hy)).txt
              simp only at hyb
              have hR1 := hidM (run8_any gf _ W0.drew ((ya, yb), yv) z (hFk.below ⟨rfl, rfl, rfl, Nat.le_refl _, fun _ _ => rfl⟩) hOl HOW.out hyb)
              have hR2 := hidM (fun W (hA : AskE (.slice (some ⟨g, o, none⟩) l.length cap) (.slice a' f.len cap') (.slice (some ⟨br, or', none⟩) lr.length capr) (.slice (some ⟨bf, of', none⟩) lf.length capf) l f lr lf w W) => run8_any f _ W ((ya, yb), yv) z hA.inn.f.1 hfl HWB.out hyb)
              have HFk := hidM hFk
              have hk0 : (0 : Int) ≤ k := by omega
              have hkri : (k : Int) < lr.length := by omega
              have hkfi : (k : Int) < lf.length := by omega
              have hk8i : (k : Int) < 8 := by omega
              have HY := hidM hy
              have HZ := hidM hz
              clear hAk hFk hy hz hyb
              go_wp2
              go_region_held3 (fun W' => W'.cell? ⟨w.heap.size, 1, none⟩ = some (.slice a' f.len cap') ∧ W'.cell? ⟨w.heap.size, 2, none⟩ = some (.slice (some ⟨br, or', none⟩) lr.length capr) ∧ W'.cell? ⟨w.heap.size, 3, none⟩ = some (.slice (some ⟨bf, of', none⟩) lf.length capf) ∧
                  W'.cell? ⟨br, or' + k * 3, none⟩ = some (.int .i64 ya) ∧ W'.cell? ⟨br, or' + k * 3 + 1, none⟩ = some (.string yb) ∧ W'.cell? ⟨br, or' + k * 3 + 2, none⟩ = some (.int .i64 yv) ∧ W'.cell? ⟨bf, of' + k, none⟩ = some (.int .i64 z))
                (first
                  | exact keepR HAk.out.drew1 HY.out HZ.out
                  | exact keepR (HAk.out.drew1.call hbA) HY.out HZ.out
                  | exact keepR ((HAk.out.drew1.call hbA).call hbB) HY.out HZ.out)
                (first
                  | (go_at_call 11; refine (hR2.out _ (HAk.out.drew1.call hbA)).mono ?_; rintro e wB ⟨rfl, hbB⟩)
                  | (go_at_call 11; refine hR1.out.mono ?_; rintro e wA ⟨rfl, hbA⟩))
              all_goals
                have HAz := hidM ((HAk.out.drew1.call hbA).call hbB)
                have HFz := hidM (((HFk.out.below (w' := W0.drew) ⟨rfl, rfl, rfl, Nat.le_refl _, fun _ _ => rfl⟩).below hbA).below hbB)
                clear hbA hbB c0 c1 c2 c3
                go_wp2
                go_roundw
                case rel => exact ⟨k + 1, by omega, by omega, by omega, by go_num, HAz.out, HFz.out⟩
                case measure => simp [intOf]; omega
            · have hway : ((lr.length : Int) ≤ (k : Int)) ∨ ((k : Int) < (lr.length : Int) ∧ (lf.length : Int) ≤ (k : Int)) ∨ ((k : Int) < (lr.length : Int) ∧ (k : Int) < (lf.length : Int) ∧ (8 : Int) ≤ (k : Int)) := by omega
              clear hkl hAk hFk
              rcases hway with j1 | ⟨j1, j2⟩ | ⟨j1, j2, j3⟩
              all_goals
                go_wp2
                clear c0 c1 c2 c3
                go_roundw
                case rel => exact ⟨q + 1, by omega, by omega, by go_num, HAk.out⟩
                case measure => simp [intOf]; omega
      · have Hw := hidM (wakes8_any wr)
        have hway2 : ((l.length : Int) ≤ (q : Int)) ∨ ((q : Int) < (l.length : Int) ∧ (8 : Int) ≤ (q : Int)) := by omega
        clear hlt hA
        rcases hway2 with g1 | ⟨g1, g2⟩
        all_goals
          go_wp2_with (go_at_call 12; refine Hw.out.mono ?_)
          rintro e w9 ⟨rfl, hb9⟩
          have hfin := HB.out.out.trans (hb9.mono (by omega))
          go_wp2
          go_ret
          exact ⟨rfl, hfin⟩
end Go.Proofs.Ytkmnpaiippgnmaa
