/- two: a word between two numbers, by each record. -/
import Derived.Test.YtkmnpaiippgnmabQ6
import Derived.Test.YtkmnpaiippgnmabQ8
import Derived.Test.YtkmnpaiippgnmabQEText
import Derived.Test.YtkmnpaiippgnmabQB
import Derived.Deep.RegionHeld3
namespace Go.Proofs.Ytkmnpaiippgnmab
open Go.RowKit
set_option linter.unusedVariables false
set_option maxRecDepth 100000

theorem RS.nil (w : World) : RS w (.slice none 0 0) [] := ⟨none, 0, rfl, .inl rfl⟩
theorem RS.addr2 {w : World} {a : Option Addr} {n cap k : Nat} {l : List Rc} {y : Rc} (h : RS w (.slice a n cap) l) (hk : l[k]? = some y) : ∃ b off, a = some ⟨b, off, none⟩ := by
  obtain ⟨a', cap', e, h⟩ := h
  rcases h with rfl | ⟨b', off', rfl, _, _⟩
  · simp at hk
  · injection e with e1 _ _
    exact ⟨_, _, e1⟩
/-- What a round reads. -/
theorem keep2 {w W : World} {vs vl vf : Value} {br or' nr cr : Nat} {l : List ByteArray} {f : Fo} {lr : List Rc} {lf : List Int} {k : Nat} {ya : Int} {yb : ByteArray} {yv : Int}
    (h : AskE vs vl (.slice (some ⟨br, or', none⟩) nr cr) vf l f lr lf w W) (hy : lr[k]? = some ((ya, yb), yv)) :
    W.cell? ⟨w.heap.size, 2, none⟩ = some (.slice (some ⟨br, or', none⟩) nr cr) ∧ W.cell? ⟨br, or' + k * 3, none⟩ = some (.int .i64 ya) ∧ W.cell? ⟨br, or' + k * 3 + 1, none⟩ = some (.string yb) ∧ W.cell? ⟨br, or' + k * 3 + 2, none⟩ = some (.int .i64 yv) := by
  obtain ⟨_, c1, c2, c3⟩ := h.cells
  obtain ⟨d0, d1, d2⟩ := h.inn.r.1.at k _ hy
  exact ⟨c2, d0, d1, d2⟩
theorem SS.cell {w : World} {g o n cap k : Nat} {l : List ByteArray} {y : ByteArray} (h : SS w (.slice (some ⟨g, o, none⟩) n cap) l) (hk : l[k]? = some y) : w.cell? ⟨g, o + k, none⟩ = some (.string y) := by
  obtain ⟨a, cap', e, h⟩ := h
  rcases h with rfl | ⟨b', off', rfl, _, hat⟩
  · simp at hk
  · injection e with e1 e2 e3
    injection e1 with e1
    injection e1 with e1 e4
    subst e1 e4
    exact hat k y hk
theorem SS.addr {w : World} {a : Option Addr} {n cap k : Nat} {l : List ByteArray} {y : ByteArray} (h : SS w (.slice a n cap) l) (hk : l[k]? = some y) : ∃ b off, a = some ⟨b, off, none⟩ := by
  obtain ⟨a', cap', e, h⟩ := h
  rcases h with rfl | ⟨b', off', rfl, _, _⟩
  · simp at hk
  · injection e with e1 _ _
    exact ⟨_, _, e1⟩
theorem SS.drew1 {w : World} {v : Value} {l : List ByteArray} (h : SS w v l) : SS w.drew v l := h.below ⟨rfl, rfl, rfl, Nat.le_refl _, fun _ _ => rfl⟩
theorem AskE.drewT {w wr : World} {vs vl vr vf : Value} {l : List ByteArray} {f : Fo} {lr : List Rc} {lf : List Int} (h : AskE vs vl vr vf l f lr lf w wr) : AskE vs vl vr vf l f lr lf w wr.drew :=
  h.call ⟨rfl, rfl, rfl, Nat.le_refl _, fun _ _ => rfl⟩
set_option maxHeartbeats 4000000 in
theorem two_any (ws : List (List UInt8)) (hws : ∀ u ∈ ws, ∃ k, Wd u k) (hwl : ws.length ≤ 3) (vw vs vl vr vf : Value) (l : List ByteArray) (f : Fo) (lr : List Rc) (lf : List Int) (w : World) (h : In8 w vs vl vr vf l f lr lf) (hW : SS w vw (ws.map ba)) :
    Calls Try.prog 6 #[.agg #[vs, vl, vr, vf], vw] w fun e w' => e = .returned (.bool true) ∧ Below w.heap.size w w' := by
  have Hn := hidM num8_any
  have hA0 := AskE.start h
  have HA0 := hidM hA0
  have Hh := hidM (heavy8_any vs vl vr vf l f lr lf _ hA0.inn)
  have HW0 : Hid (SS (w.alloc (.cells #[vs, vl, vr, vf] 29)) vw (ws.map ba)) := hW.below ((Below.refl _ _).alloc (Nat.le_refl _) _)
  have hlr := h.r.2.1
  have HWR := hidM h.r.2.2
  have HWS := hidM hws
  obtain ⟨a, cap, hvs, _⟩ := h.s.1
  obtain ⟨a', cap', hvl⟩ := h.f.1.val
  obtain ⟨ar, capr, hvr, _⟩ := h.r.1
  obtain ⟨af, capf, hvf, _⟩ := h.n.1
  obtain ⟨aw, capw, hvw, _⟩ := hW
  rw [List.length_map] at hvw
  subst hvs hvl hvr hvf hvw
  clear h hA0 hws
  go_enter Try.func6, Try.ntmps6
  go_wp2_with (go_at_call 10; refine Hh.out.mono ?_)
  rintro e w1 ⟨⟨r, rfl⟩, hb1⟩
  have hA1 := HA0.out.call hb1
  cases r with
  | true =>
    go_wp2
    go_ret
    exact ⟨rfl, hA1.out⟩
  | false =>
    have HA1 := hidM hA1
    have HW1 := hidM (HW0.out.below hb1)
    clear hA1 hb1 Hh
    go_wp2
    go_loopw [5] (fun i wr => ∃ q : Nat, q ≤ lr.length ∧ q ≤ 8 ∧ i = .int .i64 q ∧ AskE (.slice a l.length cap) (.slice a' f.len cap') (.slice ar lr.length capr) (.slice af lf.length capf) l f lr lf w wr ∧ SS wr (.slice aw ws.length capw) (ws.map ba)) (fun i _ => 8 - (intOf i).toNat)
    case atStart => exact ⟨0, by omega, by omega, rfl, HA1.out, HW1.out⟩
    case round =>
      obtain ⟨q, hq, hq8, rfl, hA, hSw⟩ := hrel
      obtain ⟨c0, c1, c2, c3⟩ := hA.cells
      have HB := hidM hA
      have HSw := hidM hSw
      have hwr0 := hA.lt
      by_cases hlt : q < lr.length ∧ q < 8
      · obtain ⟨hlt, hlt8⟩ := hlt
        obtain ⟨⟨⟨ya, yb⟩, yv⟩, hy⟩ := getSome hlt
        obtain ⟨br, or', rfl⟩ := hA.inn.r.1.addr2 hy
        have hyb := (HWR.out _ (List.mem_of_getElem? hy)).txt
        simp only at hyb
        have HYB := hidM hyb
        have HY := hidM hy
        have hq0 : (0 : Int) ≤ q := by omega
        have hqi : (q : Int) < lr.length := by omega
        have hq1 : (q : Int) < 8 := by omega
        clear hA hSw hy
        go_wp2
        clear c0 c1 c2 c3
        go_loopw [6] (fun i W => ∃ k : Nat, k ≤ ws.length ∧ i = .int .i64 k ∧ AskE (.slice a l.length cap) (.slice a' f.len cap') (.slice (some ⟨br, or', none⟩) lr.length capr) (.slice af lf.length capf) l f lr lf w W ∧ SS W (.slice aw ws.length capw) (ws.map ba)) (fun i _ => ws.length - (intOf i).toNat)
        case atStart => exact ⟨0, by omega, rfl, HB.out, HSw.out⟩
        case round =>
          obtain ⟨k, hk1, rfl, hAk, hSk⟩ := hrel
          rename World => W0
          have HAk := hidM hAk
          have HSk := hidM hSk
          have hW00 := hAk.lt
          by_cases hkl : k < ws.length
          · obtain ⟨u, hu⟩ := getSome hkl
            obtain ⟨kk, hWd⟩ := HWS.out u (List.mem_of_getElem? hu)
            have hul := hWd.len
            have hum : (ws.map ba)[k]? = some (ba u) := by simp [hu]
            obtain ⟨gw, ow, rfl⟩ := hSk.addr hum
            have cu := hSk.cell hum
            have HU := hidM hum
            have HD := hidM hWd
            have ha1 := add_ba [48, 32, 97, 32, 118, 32] u (by simp; omega)
            have ha2 := add_ba ([48, 32, 97, 32, 118, 32] ++ u) [32, 101, 109, 105, 116, 32, 49, 32, 118, 32, 97, 32] (by simp; omega)
            have ha3 := add_ba (([48, 32, 97, 32, 118, 32] ++ u) ++ [32, 101, 109, 105, 116, 32, 49, 32, 118, 32, 97, 32]) u (by simp; omega)
            have ha4 := add_ba ((([48, 32, 97, 32, 118, 32] ++ u) ++ [32, 101, 109, 105, 116, 32, 49, 32, 118, 32, 97, 32]) ++ u) [32, 101, 109, 105, 116] (by simp; omega)
            have hp0 := rparse_any (ba (tx u)) W0.drew (by show (ba (tx u)).size ≤ _; simp [ByteArray.size, tx]; omega) (by show 0 < W0.heap.size; omega)
            have HP := hidM hp0
            have hk0 : (0 : Int) ≤ k := by omega
            have hki : (k : Int) < ws.length := by omega
            clear hAk hSk hu hWd hum hp0
            generalize hx1 : ba ([48, 32, 97, 32, 118, 32] ++ u) = X1 at ha1 ha2
            generalize hx2 : ba (([48, 32, 97, 32, 118, 32] ++ u) ++ [32, 101, 109, 105, 116, 32, 49, 32, 118, 32, 97, 32]) = X2 at ha2 ha3
            generalize hx3 : ba ((([48, 32, 97, 32, 118, 32] ++ u) ++ [32, 101, 109, 105, 116, 32, 49, 32, 118, 32, 97, 32]) ++ u) = X3 at ha3 ha4
            generalize hx4 : ba (((([48, 32, 97, 32, 118, 32] ++ u) ++ [32, 101, 109, 105, 116, 32, 49, 32, 118, 32, 97, 32]) ++ u) ++ [32, 101, 109, 105, 116]) = X4 at ha4
            have hX4 : ba (tx u) = X4 := hx4
            rw [hX4] at HP
            have HX4 := hidM hX4
            generalize hxu : ba u = XU at ha1 ha3 cu HU
            clear hx1 hx2 hx3 hx4 hX4 hxu
            go_wp2
            go_region_held3 (fun W' => W'.cell? ⟨gw, ow + k, none⟩ = some (.string XU))
              (first
                | exact HSk.out.drew1.cell HU.out
                | exact (HSk.out.drew1.below hbP).cell HU.out)
              (first | (go_at_call 11; refine HP.out.mono ?_; rintro e wP ⟨rr, hpr, hbP, hres⟩; rw [← HX4.out] at hpr; have hrr := hpr.unique HD.out.prog; subst hrr; obtain ⟨v3, rfl, hown3⟩ := hres))
            all_goals
              have HAp := hidM (HAk.out.drewT.call hbP)
              have HSp := hidM (HSk.out.drew1.below hbP)
              have hfs3 := hown3.fs.arg
              have HFp := hidM hfs3
              obtain ⟨a3, cap3, rfl⟩ := hown3.len
              have hpl : (pg kk).len = 10 := rfl
              have hpw : WfB (pg kk) := ⟨by decide, trivial, by decide, trivial, by decide, trivial, by decide, trivial, by decide, trivial, by decide, trivial, by decide, trivial, by decide, trivial, by decide, trivial, by decide, trivial, trivial⟩
              have hr1 := run_any (pg kk) _ wP ((ya, yb), yv) 20 hfs3 (by rw [hpl]; decide) hpw HYB.out
              have HR1 := hidM hr1
              obtain ⟨c2, d0, d1, d2⟩ := keep2 HAp.out HY.out
              have hlen := runR_len (pg kk) ((ya, yb), yv) 20
              obtain ⟨⟨e0, n0, l0⟩, hT⟩ : ∃ t, runR (pg kk) ((ya, yb), yv) 20 = t := ⟨_, rfl⟩
              rw [hT] at HR1 hlen
              have HT := hidM hT
              clear hr1 hfs3 hown3 hbP cu hT hpr
              go_wp2_with fail
              refine HR1.out.mono ?_
              rintro e wA ⟨vA, heA, hownA, hbA⟩
              simp only at heA hownA hlen
              subst heA
              have HAa := hidM (HAp.out.call hbA)
              have HSa := hidM (HSp.out.below hbA)
              have HFa := hidM (HFp.out.below hbA)
              have HRSA := hidM (RS.own hownA)
              obtain ⟨aA, capA, rfl⟩ := row_val hownA
              clear c2 d0 d1 d2
              obtain ⟨c2, d0, d1, d2⟩ := keep2 HAa.out HY.out
              have HMy := hidM (may_any ((ya, yb), yv) 20 wA HYB.out)
              obtain ⟨my, hmy⟩ : ∃ my, mayR ((ya, yb), yv) 20 = my := ⟨_, rfl⟩
              rw [hmy] at HMy
              have HMyE := hidM hmy
              clear hownA hbA HR1 hmy
              go_wp2_with fail
              refine HMy.out.mono ?_
              rintro e wB ⟨rfl, hbB⟩
              have HAb := hidM (HAa.out.call hbB)
              have HSb := hidM (HSa.out.below hbB)
              have HFb := hidM (HFa.out.below hbB)
              have HRSB := hidM (HRSA.out.below hbB)
              clear c2 d0 d1 d2 hbB HMy
              cases my with
              | false =>
                have hno : ¬ (yb.size ≤ 64 ∧ (0 : Int) ≤ 20 ∧ (20 : Int) ≤ 2000) := fun hh => by have := (mayR_iff ((ya, yb), yv) 20).2 hh; rw [HMyE.out] at this; cases this
                have hR := runR_2 (x := ((ya, yb), yv)) (fu := 20) HD.out.chk hno
                rw [HT.out] at hR
                injection hR with r1 hR
                injection hR with r2 r3
                subst r1 r2 r3
                have HQ := hidM (eqrecs_any _ _ [] wB HRSB.out (RS.nil wB) (by decide))
                clear hno
                go_wp2_with (first | (go_at_call 8; refine (Hn.out _ _).mono ?_; rintro e w' ⟨rfl, rfl⟩) | (go_at_call 14; refine HQ.out.mono ?_))
                rintro e wC ⟨rfl, hdC⟩
                have HAc := hidM (HAb.out.call hdC.low)
                have HSc := hidM (HSb.out.below hdC.low)
                clear hdC HQ
                go_wp2
                go_roundw
                case rel => exact ⟨k + 1, by omega, by go_num, HAc.out, HSc.out⟩
                case measure => simp [intOf]; omega
              | true =>
                obtain ⟨m1, _⟩ := (mayR_iff ((ya, yb), yv) 20).1 HMyE.out
                have hr4 := rRun_any (pg kk) _ wB ((ya, yb), yv) 20 HFb.out (by rw [hpl]; decide) hpw HD.out.chk m1 (by omega)
                rw [show ((20 : Nat) : Int) = 20 from rfl, HT.out] at hr4
                have HR4 := hidM hr4
                obtain ⟨c2, d0, d1, d2⟩ := keep2 HAb.out HY.out
                clear hr4 m1
                go_wp2_with fail
                refine HR4.out.mono ?_
                rintro e wD ⟨vD, heD, hownD, hbD⟩
                simp only at heD hownD
                subst heD
                have HAd := hidM (HAb.out.call hbD)
                have HSd := hidM (HSb.out.below hbD)
                have HQ := hidM (eqrecs_any _ _ l0 wD (HRSB.out.below hbD) (RS.own hownD) (by omega))
                obtain ⟨aD, capD, rfl⟩ := row_val hownD
                clear c2 d0 d1 d2 hbD hownD HR4
                go_wp2_with (first | (go_at_call 8; refine (Hn.out _ _).mono ?_; rintro e w' ⟨rfl, rfl⟩) | (go_at_call 14; refine HQ.out.mono ?_))
                rintro e wC ⟨rfl, hdC⟩
                have HAc := hidM (HAd.out.call hdC.low)
                have HSc := hidM (HSd.out.below hdC.low)
                clear hdC HQ
                go_wp2
                go_roundw
                case rel => exact ⟨k + 1, by omega, by go_num, HAc.out, HSc.out⟩
                case measure => simp [intOf]; omega
          · have hway : (ws.length : Int) ≤ (k : Int) := by omega
            clear hkl hAk hSk
            go_wp2
            go_roundw
            case rel => exact ⟨q + 1, by omega, by omega, by go_num, HAk.out, HSk.out⟩
            case measure => simp [intOf]; omega
      · have Hw := hidM (wakes8_any wr)
        have hway2 : ((lr.length : Int) ≤ (q : Int)) ∨ ((q : Int) < (lr.length : Int) ∧ (8 : Int) ≤ (q : Int)) := by omega
        clear hlt hA hSw
        rcases hway2 with g1 | ⟨g1, g2⟩
        all_goals
          go_wp2_with (go_at_call 9; refine Hw.out.mono ?_)
          rintro e w9 ⟨rfl, hb9⟩
          have hfin := HB.out.out.trans (hb9.mono (by omega))
          go_wp2
          go_ret
          exact ⟨rfl, hfin⟩
end Go.Proofs.Ytkmnpaiippgnmab
