/- The law PartOfs. -/
import Derived.Test.YtejgcflcckjlpaaDoorOC52
import Derived.Test.YtejgcflcckjlpaaDoorOC53
import Derived.Test.YtejgcflcckjlpaaDoorOC54
import Derived.Test.YtejgcflcckjlpaaDoorOC38M
import Derived.Test.YtejgcflcckjlpaaDoorOC41M
import Derived.Test.YtejgcflcckjlpaaDoorOC55
namespace Go.Proofs.YtejgcflcckjlpaaDoor
open Go.RowKit
set_option linter.unusedVariables false
set_option maxRecDepth 100000

theorem prt_small {n : Int} {l m : List Rw} {a b : Nat} (h : m ∈ prt n l) (hl : l.length ≤ a) (hs : ∀ r ∈ l, r.2.2.length ≤ b) : m.length ≤ a ∧ ∀ r ∈ m, r.2.2.length ≤ b := by
  obtain ⟨p, _, rfl⟩ := List.mem_map.1 (show m ∈ (List.range n.toNat).map (partR (ofP n) l) from h)
  exact ⟨Nat.le_trans (partR_len _ _ _) hl, fun r hr => hs r (partR_mem.1 hr).1⟩
set_option maxHeartbeats 4000000 in
theorem lawpo (agg bound : Int) (vl vv : Value) (x : ByteArray) (L : List (List Rw)) (l : List Rc) (w : World) (h : In10 w agg bound vl vv x L l) (hh : Halves w) :
    Calls Tryd.prog 3 #[askV agg bound vl vv x] w (BoolR w true) := by
  have hb0 := (Below.refl w.heap.size w).alloc (Nat.le_refl _) (askO agg bound vl vv x)
  have hA := BlkA.new w agg bound vl vv x
  obtain ⟨W0, hW0⟩ : ∃ W0 : World, W0 = w.alloc (askO agg bound vl vv x) := ⟨_, rfl⟩
  rw [← hW0] at hb0 hA
  have h0 := h.below hb0
  have hh0 : Halves W0 := hh.below hb0 hh.pos
  have H1 := hidM (heavy_any agg bound vl vv x L l W0 h0)
  obtain ⟨va, vc, rfl, hvc, hvc2⟩ := h.hLcap
  obtain ⟨ra, rc, rfl, hrc, hrc2⟩ := h.hcap
  have HR := hidM (show ∀ W, Below W0.heap.size W0 W → LLS W (.slice va L.length vc) L from fun W hW => h0.hL.1.below hW)
  have HRR := hidM (show ∀ W, Below W0.heap.size W0 W → RS W (.slice ra l.length rc) l from fun W hW => h0.hl.1.below hW)
  have HWF := hidM (show ∀ r ∈ L, WfRs r from fun r hr => (h.hL.2.2 r hr).2)
  have HWR := hidM (show ∀ r ∈ l, -9223372036854775808 ≤ r.1.1 ∧ r.1.1 ≤ 9223372036854775807 from fun r hr => ⟨(h.hl.2.2 r hr).k1, (h.hl.2.2 r hr).k2⟩)
  have HA := hidM (show ∀ W, Below W0.heap.size W0 W → W.cell? ⟨w.heap.size, 0, none⟩ = some (.int .i64 agg) ∧ W.cell? ⟨w.heap.size, 1, none⟩ = some (.int .i64 bound) ∧ W.cell? ⟨w.heap.size, 2, none⟩ = some (.slice va L.length vc) ∧ W.cell? ⟨w.heap.size, 3, none⟩ = some (.slice ra l.length rc) ∧ W.cell? ⟨w.heap.size, 4, none⟩ = some (.string x) from fun W hW => (hA.below hW).cells)
  obtain ⟨a0, a1, a2, a3, a4⟩ := HA.out W0 (Below.refl _ _)
  have HW := hidM hW0.symm
  have HB := hidM hb0
  have HN := hidM num11_any
  have HK := hidM (show ∀ W, Below W0.heap.size W0 W → Calls Tryd.prog 15 #[] W (BoolR W true) from fun W hW => wakes11_any W (hh0.below hW hh0.pos))
  clear h h0 hb0 hA hW0 hh hh0
  go_enter Tryd.func3, Tryd.ntmps3
  go_wp2_with fail
  rw [HW.out]
  refine H1.out.mono ?_
  rintro e W1 ⟨⟨hv, rfl, hsm⟩, hb1⟩
  cases hv with
  | true =>
    go_wp2
    go_ret
    exact ⟨rfl, nxt HB.out hb1⟩
  | false =>
    obtain ⟨hLs, hrs, hls, -⟩ := hsm rfl
    have HRS := hidM hrs
    have HB1 := hidM hb1
    clear hsm hrs a0 a1 a2 a3 a4 H1 hb1
    go_wp2
    go_loopw [3] (fun i wr => ∃ n : Int, i = .int .i64 n ∧ -1 ≤ n ∧ n ≤ 10 ∧ Below W0.heap.size W0 wr) (fun i _ => (10 - intOf i).toNat)
    case atStart => exact ⟨-1, rfl, by omega, by omega, HB1.out⟩
    case round =>
      clear HB1
      rename World => w1
      obtain ⟨n, rfl, hn0, hn1, hbr⟩ := hrel
      by_cases hn9 : n ≤ 9
      · have HBR := hidM hbr
        clear hbr
        go_wp2
        go_loopw [4] (fun i wr => ∃ k : Nat, i = .int .i64 k ∧ k ≤ l.length ∧ k ≤ 20 ∧ Below W0.heap.size W0 wr) (fun i _ => 20 - (intOf i).toNat)
        case atStart => exact ⟨0, rfl, by omega, by omega, HBR.out⟩
        case round =>
          clear HBR
          rename World => w2
          obtain ⟨k, rfl, hk1, hk2, hbr⟩ := hrel
          have HBR := hidM hbr
          obtain ⟨r0, r1, r2, r3, r4⟩ := HA.out w2 hbr
          by_cases hkl : k < l.length
          · by_cases hk20 : k < 20
            · have hki : (k : Int) < (l.length : Int) := by omega
              have hki2 : (k : Int) < 20 := by omega
              have hk0 : (0 : Int) ≤ (k : Int) := by omega
              obtain ⟨⟨⟨ya, yb⟩, yv⟩, hy⟩ := getSome hkl
              have hnum := HWR.out _ (List.mem_of_getElem? hy)
              simp only at hnum
              rcases (HRR.out w2 hbr).shape with ⟨_, _, e0, e1⟩ | ⟨b, off, cap, e0, hb, hat⟩
              · rw [e1] at hkl; simp at hkl
              have e2 : ra = some ⟨b, off, none⟩ := by injection e0
              clear e0
              subst e2
              have HC := hidM (show ∀ W, Below w2.heap.size w2 W → W.cell? ⟨b, off + k * 3, none⟩ = some (.int .i64 ya) ∧ W.cell? ⟨b, off + k * 3 + 1, none⟩ = some (.string yb) from fun W hW => by
                obtain ⟨q0, q1, -⟩ := hat k _ hy
                exact ⟨(hW.cell (p := ⟨b, _, none⟩) hb).trans q0, (hW.cell (p := ⟨b, _, none⟩) hb).trans q1⟩)
              obtain ⟨c0, c1⟩ := HC.out w2 (Below.refl _ _)
              have HF := hidM (of_any n (ya, yb) w2 hnum.1 hnum.2)
              have HKY := hidM (fun W => rkey_any (ya, yb) W)
              have HMP := hidM (fun W => mayParts_any n W)
              clear hbr hy hb hat
              by_cases hs : yb.size ≤ 64
              · rw [show decide ((ya, yb).2.size ≤ 64) = true from decide_eq_true hs] at HKY
                cases hm : mayP n with
                | true =>
                  rw [hm] at HMP
                  rw [ofRes_ok hs hm] at HF
                  have HRO := hidM (fun W => rof_any n (ya, yb) W hnum.1 hnum.2 hs hm)
                  generalize ofP n (ya, yb) = p at HF HRO
                  go_wp2_with (first
                    | (go_at_call 5; refine HF.out.mono ?_; rintro e W3 ⟨rfl, hb3⟩; obtain ⟨d0, d1⟩ := HC.out W3 hb3; obtain ⟨s0, s1, s2, s3, s4⟩ := HA.out W3 (nxt HBR.out hb3))
                    | (go_at_call 6; refine (HKY.out W3).mono ?_; rintro e W4 ⟨rfl, hb4⟩; obtain ⟨f0, f1⟩ := HC.out W4 (nxt hb3 hb4); obtain ⟨t0, t1, t2, t3, t4⟩ := HA.out W4 (nxt HBR.out (nxt hb3 hb4)))
                    | (go_at_call 7; refine (HMP.out W4).mono ?_; rintro e W5 ⟨rfl, hw5⟩; subst W5)
                    | (go_at_call 8; refine (HRO.out W4).mono ?_; rintro e W6 ⟨rfl, hb6⟩)
                    | (go_at_call 9; refine (HN.out _ _).mono ?_; rintro e W7 ⟨rfl, hw7⟩; subst W7))
                  go_roundw
                  case rel => exact ⟨k + 1, by go_num, by omega, by omega, nxt HBR.out (nxt (nxt hb3 hb4) hb6)⟩
                  case measure => simp [intOf]; omega
                | false =>
                  rw [hm] at HMP
                  rw [ofRes_num hm] at HF
                  go_wp2_with (first
                    | (go_at_call 5; refine HF.out.mono ?_; rintro e W3 ⟨rfl, hb3⟩; obtain ⟨d0, d1⟩ := HC.out W3 hb3; obtain ⟨s0, s1, s2, s3, s4⟩ := HA.out W3 (nxt HBR.out hb3))
                    | (go_at_call 6; refine (HKY.out W3).mono ?_; rintro e W4 ⟨rfl, hb4⟩; obtain ⟨f0, f1⟩ := HC.out W4 (nxt hb3 hb4); obtain ⟨t0, t1, t2, t3, t4⟩ := HA.out W4 (nxt HBR.out (nxt hb3 hb4)))
                    | (go_at_call 7; refine (HMP.out W4).mono ?_; rintro e W5 ⟨rfl, hw5⟩; subst W5)
                    | (go_at_call 9; refine (HN.out _ _).mono ?_; rintro e W7 ⟨rfl, hw7⟩; subst W7))
                  go_roundw
                  case rel => exact ⟨k + 1, by go_num, by omega, by omega, nxt HBR.out (nxt hb3 hb4)⟩
                  case measure => simp [intOf]; omega
              · rw [show decide ((ya, yb).2.size ≤ 64) = false from decide_eq_false hs] at HKY
                rw [ofRes_key hs] at HF
                go_wp2_with (first
                  | (go_at_call 5; refine HF.out.mono ?_; rintro e W3 ⟨rfl, hb3⟩; obtain ⟨d0, d1⟩ := HC.out W3 hb3; obtain ⟨s0, s1, s2, s3, s4⟩ := HA.out W3 (nxt HBR.out hb3))
                  | (go_at_call 6; refine (HKY.out W3).mono ?_; rintro e W4 ⟨rfl, hb4⟩)
                  | (go_at_call 9; refine (HN.out _ _).mono ?_; rintro e W7 ⟨rfl, hw7⟩; subst W7))
                go_roundw
                case rel => exact ⟨k + 1, by go_num, by omega, by omega, nxt HBR.out (nxt hb3 hb4)⟩
                case measure => simp [intOf]; omega
            · have hki : (k : Int) < (l.length : Int) := by omega
              have hki2 : ¬ (k : Int) < 20 := by omega
              clear hbr
              go_wp2
              go_loopw [9] (fun i wr => ∃ k : Nat, i = .int .i64 k ∧ k ≤ L.length ∧ k ≤ 6 ∧ Below W0.heap.size W0 wr) (fun i _ => 6 - (intOf i).toNat)
              case atStart => exact ⟨0, rfl, by omega, by omega, HBR.out⟩
              case round =>
                clear HBR
                rename World => w3
                obtain ⟨k, rfl, hk1, hk2, hbr⟩ := hrel
                have HBR := hidM hbr
                obtain ⟨r0, r1, r2, r3, r4⟩ := HA.out w3 hbr
                by_cases hkl : k < L.length
                · by_cases hk6 : k < 6
                  · have hki : (k : Int) < (L.length : Int) := by omega
                    have hki2 : (k : Int) < 6 := by omega
                    have hk0 : (0 : Int) ≤ (k : Int) := by omega
                    obtain ⟨m, hy⟩ := getSome hkl
                    have hmm := List.mem_of_getElem? hy
                    have hms := HRS.out m hmm
                    have hmw := HWF.out m hmm
                    obtain ⟨a9, c9, e9, h9⟩ := HR.out w3 hbr
                    have e91 : va = a9 := by injection e9
                    clear e9
                    subst e91
                    rcases h9 with h9 | ⟨b, off, rfl, hb, hat⟩
                    · rw [h9] at hkl; simp at hkl
                    obtain ⟨u, hu, hws, hcap⟩ := hat k m hy
                    obtain ⟨ua, uc, rfl, -⟩ := id hws
                    have HC := hidM (show ∀ W, Below w3.heap.size w3 W → W.cell? ⟨b, off + k, none⟩ = some (.slice ua m.length uc) from fun W hW => (hW.cell (p := ⟨b, _, none⟩) hb).trans hu)
                    have HCP := hidM (copyRows_any _ m w3 hws (by omega) (fun r hr => by have := hms.2 r hr; omega))
                    have HPA := hidM (fun (W : World) (v : Value) (hv : WS W v m) => parts_any n v m W hv (by omega) (fun r hr => by have := hms.2 r hr; omega) hmw)
                    have HRO := hidM (fun W (hW : Below w3.heap.size w3 W) => rordered_any _ m W (hws.below hW) (by omega))
                    have HMP := hidM (fun W => mayParts_any n W)
                    have HEQ0 := hidM (fun (W : World) (v : Value) (hv : RnS W v []) => eqRuns_any v (.slice none 0 0) [] W hv ⟨none, 0, rfl, .inl rfl⟩ (by simp) (fun y hy => by simp at hy))
                    cases ho : ordB m with
                    | false =>
                      rw [ho] at HRO
                      have e1 : partsRes n m = ([], 1) := by unfold partsRes; rw [ho, Bool.and_false]; rfl
                      rw [e1] at HPA
                      clear hbr hy hmm hms hmw hb hat hws hcap e1
                      go_wp2_with (first
                        | (go_at_call 11; refine HCP.out.mono ?_; rintro e W4 ⟨⟨v4, rfl, ho4⟩, hb4⟩; have HP4 := hidM (HPA.out W4 v4 ho4.ws); obtain ⟨a4, c4, rfl⟩ := id ho4.slice)
                        | (go_at_call 10; refine HP4.out.mono ?_; rintro e W5 ⟨⟨v5, rfl, ho5⟩, hb5⟩; have hb35 := nxt hb4 hb5; have d0 := HC.out W5 hb35; obtain ⟨s0, s1, s2, s3, s4⟩ := HA.out W5 (nxt HBR.out hb35); have hr5 : RnS W5 v5 [] := ho5.rns; have HR5 := hidM ho5; obtain ⟨a5, c5, rfl, -⟩ := hr5)
                        | (go_at_call 12; refine (HRO.out W5 hb35).mono ?_; rintro e W6 ⟨rfl, hb6⟩; have HE6 := hidM (HEQ0.out W6 _ (HR5.out.below hb6).rns))
                        | (go_at_call 9; refine (HN.out _ _).mono ?_; rintro e W7 ⟨rfl, hw7⟩; subst W7)
                        | (go_at_call 14; refine HE6.out.mono ?_; rintro e W8 ⟨rfl, hb8⟩))
                      go_roundw
                      case rel => exact ⟨k + 1, by go_num, by omega, by omega, nxt HBR.out (nxt (nxt hb35 hb6) hb8)⟩
                      case measure => simp [intOf]; omega
                    | true =>
                      rw [ho] at HRO
                      cases hm : mayP n with
                      | false =>
                        rw [hm] at HMP
                        have e1 : partsRes n m = ([], 1) := by unfold partsRes; rw [hm, Bool.false_and]; rfl
                        rw [e1] at HPA
                        clear hbr hy hmm hms hmw hb hat hws hcap e1
                        go_wp2_with (first
                          | (go_at_call 11; refine HCP.out.mono ?_; rintro e W4 ⟨⟨v4, rfl, ho4⟩, hb4⟩; have HP4 := hidM (HPA.out W4 v4 ho4.ws); obtain ⟨a4, c4, rfl⟩ := id ho4.slice)
                          | (go_at_call 10; refine HP4.out.mono ?_; rintro e W5 ⟨⟨v5, rfl, ho5⟩, hb5⟩; have hb35 := nxt hb4 hb5; have d0 := HC.out W5 hb35; obtain ⟨s0, s1, s2, s3, s4⟩ := HA.out W5 (nxt HBR.out hb35); have hr5 : RnS W5 v5 [] := ho5.rns; have HR5 := hidM ho5; obtain ⟨a5, c5, rfl, -⟩ := hr5)
                          | (go_at_call 12; refine (HRO.out W5 hb35).mono ?_; rintro e W6 ⟨rfl, hb6⟩; have HE6 := hidM (HEQ0.out W6 _ (HR5.out.below hb6).rns))
                          | (go_at_call 7; refine (HMP.out W6).mono ?_; rintro e W7 ⟨rfl, hw7⟩; subst W7)
                          | (go_at_call 9; refine (HN.out _ _).mono ?_; rintro e W7 ⟨rfl, hw7⟩; subst W7)
                          | (go_at_call 14; refine HE6.out.mono ?_; rintro e W8 ⟨rfl, hb8⟩))
                        go_roundw
                        case rel => exact ⟨k + 1, by go_num, by omega, by omega, nxt HBR.out (nxt (nxt hb35 hb6) hb8)⟩
                        case measure => simp [intOf]; omega
                      | true =>
                        rw [hm] at HMP
                        have e1 : partsRes n m = (prt n m, 0) := by unfold partsRes; rw [hm, ho]; rfl
                        rw [e1] at HPA
                        have hm8 := mayP_of hm
                        have HRP := hidM (fun W (hW : Below w3.heap.size w3 W) => rparts_any n _ m W (hws.below hW) (by omega) (fun r hr => by have := hms.2 r hr; omega) hmw hm (ordB_keys ho))
                        have HPS := hidM (show ∀ y ∈ prt n m, y.length ≤ 100000 ∧ ∀ r ∈ y, r.2.2.length ≤ 100000 from fun y hy => prt_small hy (by omega) (fun r hr => by have := hms.2 r hr; omega))
                        have HEQ := hidM (fun (W : World) (v u : Value) (hv : RnS W v (prt n m)) (hu : RnS W u (prt n m)) => eqRuns_any v u (prt n m) W hv hu (by rw [show (prt n m).length = n.toNat from partsR_len _ _ _]; omega) HPS.out)
                        generalize prt n m = P at HPA HRP HEQ
                        clear hbr hy hmm hms hmw hb hat hws hcap e1 HPS HEQ0
                        go_wp2_with (first
                          | (go_at_call 11; refine HCP.out.mono ?_; rintro e W4 ⟨⟨v4, rfl, ho4⟩, hb4⟩; have HP4 := hidM (HPA.out W4 v4 ho4.ws); obtain ⟨a4, c4, rfl⟩ := id ho4.slice)
                          | (go_at_call 10; refine HP4.out.mono ?_; rintro e W5 ⟨⟨v5, rfl, ho5⟩, hb5⟩; have hb35 := nxt hb4 hb5; have d0 := HC.out W5 hb35; obtain ⟨s0, s1, s2, s3, s4⟩ := HA.out W5 (nxt HBR.out hb35); have hr5 : RnS W5 v5 P := ho5.rns; have HR5 := hidM ho5; obtain ⟨a5, c5, rfl, -⟩ := hr5)
                          | (go_at_call 12; refine (HRO.out W5 hb35).mono ?_; rintro e W6 ⟨rfl, hb6⟩; have hb36 := nxt hb35 hb6; have f0 := HC.out W6 hb36; obtain ⟨t0, t1, t2, t3, t4⟩ := HA.out W6 (nxt HBR.out hb36); have HR6 := hidM (HR5.out.below hb6))
                          | (go_at_call 7; refine (HMP.out W6).mono ?_; rintro e W7 ⟨rfl, hw7⟩; subst W7)
                          | (go_at_call 13; refine (HRP.out W6 hb36).mono ?_; rintro e W9 ⟨⟨v9, rfl, ho9⟩, hb9⟩; have HE9 := hidM (HEQ.out W9 _ v9 (HR6.out.below hb9).rns ho9.rns); obtain ⟨a9', c9', rfl, -⟩ := ho9.rns)
                          | (go_at_call 9; refine (HN.out _ _).mono ?_; rintro e W7 ⟨rfl, hw7⟩; subst W7)
                          | (go_at_call 14; refine HE9.out.mono ?_; rintro e W8 ⟨rfl, hb8⟩))
                        go_roundw
                        case rel => exact ⟨k + 1, by go_num, by omega, by omega, nxt HBR.out (nxt (nxt hb36 hb9) hb8)⟩
                        case measure => simp [intOf]; omega
                  · have hki : (k : Int) < (L.length : Int) := by omega
                    have hki2 : ¬ (k : Int) < 6 := by omega
                    go_wp2
                    go_roundw
                    case rel => exact ⟨n + 1, by go_num, by omega, by omega, hbr⟩
                    case measure => simp [intOf]; omega
                · have hki : ¬ (k : Int) < (L.length : Int) := by omega
                  go_wp2
                  go_roundw
                  case rel => exact ⟨n + 1, by go_num, by omega, by omega, hbr⟩
                  case measure => simp [intOf]; omega
          · have hki : ¬ (k : Int) < (l.length : Int) := by omega
            clear hbr
            go_wp2
            go_loopw [9] (fun i wr => ∃ k : Nat, i = .int .i64 k ∧ k ≤ L.length ∧ k ≤ 6 ∧ Below W0.heap.size W0 wr) (fun i _ => 6 - (intOf i).toNat)
            case atStart => exact ⟨0, rfl, by omega, by omega, HBR.out⟩
            case round =>
              clear HBR
              rename World => w3
              obtain ⟨k, rfl, hk1, hk2, hbr⟩ := hrel
              have HBR := hidM hbr
              obtain ⟨r0, r1, r2, r3, r4⟩ := HA.out w3 hbr
              by_cases hkl : k < L.length
              · by_cases hk6 : k < 6
                · have hki : (k : Int) < (L.length : Int) := by omega
                  have hki2 : (k : Int) < 6 := by omega
                  have hk0 : (0 : Int) ≤ (k : Int) := by omega
                  obtain ⟨m, hy⟩ := getSome hkl
                  have hmm := List.mem_of_getElem? hy
                  have hms := HRS.out m hmm
                  have hmw := HWF.out m hmm
                  obtain ⟨a9, c9, e9, h9⟩ := HR.out w3 hbr
                  have e91 : va = a9 := by injection e9
                  clear e9
                  subst e91
                  rcases h9 with h9 | ⟨b, off, rfl, hb, hat⟩
                  · rw [h9] at hkl; simp at hkl
                  obtain ⟨u, hu, hws, hcap⟩ := hat k m hy
                  obtain ⟨ua, uc, rfl, -⟩ := id hws
                  have HC := hidM (show ∀ W, Below w3.heap.size w3 W → W.cell? ⟨b, off + k, none⟩ = some (.slice ua m.length uc) from fun W hW => (hW.cell (p := ⟨b, _, none⟩) hb).trans hu)
                  have HCP := hidM (copyRows_any _ m w3 hws (by omega) (fun r hr => by have := hms.2 r hr; omega))
                  have HPA := hidM (fun (W : World) (v : Value) (hv : WS W v m) => parts_any n v m W hv (by omega) (fun r hr => by have := hms.2 r hr; omega) hmw)
                  have HRO := hidM (fun W (hW : Below w3.heap.size w3 W) => rordered_any _ m W (hws.below hW) (by omega))
                  have HMP := hidM (fun W => mayParts_any n W)
                  have HEQ0 := hidM (fun (W : World) (v : Value) (hv : RnS W v []) => eqRuns_any v (.slice none 0 0) [] W hv ⟨none, 0, rfl, .inl rfl⟩ (by simp) (fun y hy => by simp at hy))
                  cases ho : ordB m with
                  | false =>
                    rw [ho] at HRO
                    have e1 : partsRes n m = ([], 1) := by unfold partsRes; rw [ho, Bool.and_false]; rfl
                    rw [e1] at HPA
                    clear hbr hy hmm hms hmw hb hat hws hcap e1
                    go_wp2_with (first
                      | (go_at_call 11; refine HCP.out.mono ?_; rintro e W4 ⟨⟨v4, rfl, ho4⟩, hb4⟩; have HP4 := hidM (HPA.out W4 v4 ho4.ws); obtain ⟨a4, c4, rfl⟩ := id ho4.slice)
                      | (go_at_call 10; refine HP4.out.mono ?_; rintro e W5 ⟨⟨v5, rfl, ho5⟩, hb5⟩; have hb35 := nxt hb4 hb5; have d0 := HC.out W5 hb35; obtain ⟨s0, s1, s2, s3, s4⟩ := HA.out W5 (nxt HBR.out hb35); have hr5 : RnS W5 v5 [] := ho5.rns; have HR5 := hidM ho5; obtain ⟨a5, c5, rfl, -⟩ := hr5)
                      | (go_at_call 12; refine (HRO.out W5 hb35).mono ?_; rintro e W6 ⟨rfl, hb6⟩; have HE6 := hidM (HEQ0.out W6 _ (HR5.out.below hb6).rns))
                      | (go_at_call 9; refine (HN.out _ _).mono ?_; rintro e W7 ⟨rfl, hw7⟩; subst W7)
                      | (go_at_call 14; refine HE6.out.mono ?_; rintro e W8 ⟨rfl, hb8⟩))
                    go_roundw
                    case rel => exact ⟨k + 1, by go_num, by omega, by omega, nxt HBR.out (nxt (nxt hb35 hb6) hb8)⟩
                    case measure => simp [intOf]; omega
                  | true =>
                    rw [ho] at HRO
                    cases hm : mayP n with
                    | false =>
                      rw [hm] at HMP
                      have e1 : partsRes n m = ([], 1) := by unfold partsRes; rw [hm, Bool.false_and]; rfl
                      rw [e1] at HPA
                      clear hbr hy hmm hms hmw hb hat hws hcap e1
                      go_wp2_with (first
                        | (go_at_call 11; refine HCP.out.mono ?_; rintro e W4 ⟨⟨v4, rfl, ho4⟩, hb4⟩; have HP4 := hidM (HPA.out W4 v4 ho4.ws); obtain ⟨a4, c4, rfl⟩ := id ho4.slice)
                        | (go_at_call 10; refine HP4.out.mono ?_; rintro e W5 ⟨⟨v5, rfl, ho5⟩, hb5⟩; have hb35 := nxt hb4 hb5; have d0 := HC.out W5 hb35; obtain ⟨s0, s1, s2, s3, s4⟩ := HA.out W5 (nxt HBR.out hb35); have hr5 : RnS W5 v5 [] := ho5.rns; have HR5 := hidM ho5; obtain ⟨a5, c5, rfl, -⟩ := hr5)
                        | (go_at_call 12; refine (HRO.out W5 hb35).mono ?_; rintro e W6 ⟨rfl, hb6⟩; have HE6 := hidM (HEQ0.out W6 _ (HR5.out.below hb6).rns))
                        | (go_at_call 7; refine (HMP.out W6).mono ?_; rintro e W7 ⟨rfl, hw7⟩; subst W7)
                        | (go_at_call 9; refine (HN.out _ _).mono ?_; rintro e W7 ⟨rfl, hw7⟩; subst W7)
                        | (go_at_call 14; refine HE6.out.mono ?_; rintro e W8 ⟨rfl, hb8⟩))
                      go_roundw
                      case rel => exact ⟨k + 1, by go_num, by omega, by omega, nxt HBR.out (nxt (nxt hb35 hb6) hb8)⟩
                      case measure => simp [intOf]; omega
                    | true =>
                      rw [hm] at HMP
                      have e1 : partsRes n m = (prt n m, 0) := by unfold partsRes; rw [hm, ho]; rfl
                      rw [e1] at HPA
                      have hm8 := mayP_of hm
                      have HRP := hidM (fun W (hW : Below w3.heap.size w3 W) => rparts_any n _ m W (hws.below hW) (by omega) (fun r hr => by have := hms.2 r hr; omega) hmw hm (ordB_keys ho))
                      have HPS := hidM (show ∀ y ∈ prt n m, y.length ≤ 100000 ∧ ∀ r ∈ y, r.2.2.length ≤ 100000 from fun y hy => prt_small hy (by omega) (fun r hr => by have := hms.2 r hr; omega))
                      have HEQ := hidM (fun (W : World) (v u : Value) (hv : RnS W v (prt n m)) (hu : RnS W u (prt n m)) => eqRuns_any v u (prt n m) W hv hu (by rw [show (prt n m).length = n.toNat from partsR_len _ _ _]; omega) HPS.out)
                      generalize prt n m = P at HPA HRP HEQ
                      clear hbr hy hmm hms hmw hb hat hws hcap e1 HPS HEQ0
                      go_wp2_with (first
                        | (go_at_call 11; refine HCP.out.mono ?_; rintro e W4 ⟨⟨v4, rfl, ho4⟩, hb4⟩; have HP4 := hidM (HPA.out W4 v4 ho4.ws); obtain ⟨a4, c4, rfl⟩ := id ho4.slice)
                        | (go_at_call 10; refine HP4.out.mono ?_; rintro e W5 ⟨⟨v5, rfl, ho5⟩, hb5⟩; have hb35 := nxt hb4 hb5; have d0 := HC.out W5 hb35; obtain ⟨s0, s1, s2, s3, s4⟩ := HA.out W5 (nxt HBR.out hb35); have hr5 : RnS W5 v5 P := ho5.rns; have HR5 := hidM ho5; obtain ⟨a5, c5, rfl, -⟩ := hr5)
                        | (go_at_call 12; refine (HRO.out W5 hb35).mono ?_; rintro e W6 ⟨rfl, hb6⟩; have hb36 := nxt hb35 hb6; have f0 := HC.out W6 hb36; obtain ⟨t0, t1, t2, t3, t4⟩ := HA.out W6 (nxt HBR.out hb36); have HR6 := hidM (HR5.out.below hb6))
                        | (go_at_call 7; refine (HMP.out W6).mono ?_; rintro e W7 ⟨rfl, hw7⟩; subst W7)
                        | (go_at_call 13; refine (HRP.out W6 hb36).mono ?_; rintro e W9 ⟨⟨v9, rfl, ho9⟩, hb9⟩; have HE9 := hidM (HEQ.out W9 _ v9 (HR6.out.below hb9).rns ho9.rns); obtain ⟨a9', c9', rfl, -⟩ := ho9.rns)
                        | (go_at_call 9; refine (HN.out _ _).mono ?_; rintro e W7 ⟨rfl, hw7⟩; subst W7)
                        | (go_at_call 14; refine HE9.out.mono ?_; rintro e W8 ⟨rfl, hb8⟩))
                      go_roundw
                      case rel => exact ⟨k + 1, by go_num, by omega, by omega, nxt HBR.out (nxt (nxt hb36 hb9) hb8)⟩
                      case measure => simp [intOf]; omega
                · have hki : (k : Int) < (L.length : Int) := by omega
                  have hki2 : ¬ (k : Int) < 6 := by omega
                  go_wp2
                  go_roundw
                  case rel => exact ⟨n + 1, by go_num, by omega, by omega, hbr⟩
                  case measure => simp [intOf]; omega
              · have hki : ¬ (k : Int) < (L.length : Int) := by omega
                go_wp2
                go_roundw
                case rel => exact ⟨n + 1, by go_num, by omega, by omega, hbr⟩
                case measure => simp [intOf]; omega
      · have hn9' : ¬ n ≤ 9 := hn9
        have HK2 := hidM (HK.out w1 hbr)
        go_wp2_with (go_at_call 15; refine HK2.out.mono ?_; rintro e W8 ⟨rfl, hb8⟩)
        go_ret
        exact ⟨rfl, nxt HB.out (nxt hbr hb8)⟩
end Go.Proofs.YtejgcflcckjlpaaDoor
