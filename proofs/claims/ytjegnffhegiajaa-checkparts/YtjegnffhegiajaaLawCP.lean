/- CheckParts: the walk. -/
import Derived.Test.YtjegnffhegiajaaLawCPa
namespace Go.Proofs.Ytjegnffhegiajaa
open Go.RowKit
set_option linter.unusedVariables false
set_option maxRecDepth 100000

set_option maxHeartbeats 1600000 in
theorem lawcp (vs vl : Value) (l : List ByteArray) (f : Fo) (w : World) (hS : SS w vs l ∧ List.length l ≤ 8796093021952 ∧ WfS l) (hF : FS QA w vl f ∧ f.len ≤ 3518437208780 ∧ WfB f ∧ WfN f) (hcp : Capd vl) :
    Calls Try.prog 4 #[.agg #[vs, vl]] w fun e w' => e = .returned (.bool true) ∧ Below w.heap.size w w' := by
  have hA0 := AskC.start hS.1 hF.1
  have HA0 := hidA hA0
  have Hh := hidA (fun W hA => heavy_any vs vl l f W ⟨(show AskC vs vl l f w W from hA).ss, hS.2⟩ ⟨hA.fs, hF.2⟩)
  have Ho := hidA (rops_any f vl _ hA0.fs hF.2.1 hF.2.2.1)
  have Hn := hidA num7_any
  have HWB := hidA hF.2.2.1
  have hfl := hF.2.1
  obtain ⟨c0, c1⟩ := hA0.cells
  obtain ⟨a, cap, rfl, _⟩ := hS.1
  obtain ⟨a', cap', rfl⟩ := hF.1.val
  have hcap : f.len ≤ cap' := by obtain ⟨_, _, _, e, h, _⟩ := hcp; injection e with e1 e2 e3; omega
  clear hS hF hA0 hcp
  go_enter Try.func4, Try.ntmps4
  go_wp2_with (go_at_call 9; refine Ho.out.mono ?_)
  rintro e w0 ⟨hr0, hb0⟩
  obtain ⟨z, r0, rfl, hmay⟩ : ∃ z r0, e = .returned (.tuple #[.int .i64 z, .bool r0]) ∧ (r0 = true → May f) := by
    rcases hr0 with ⟨h1, h2⟩ | ⟨_, z, h2⟩
    · exact ⟨_, _, h2, fun _ => h1⟩
    · exact ⟨_, _, h2, fun h => by cases h⟩
  have hA1 := HA0.out.call hb0
  have HA1 := hidA hA1
  have Hh1 := hidA (Hh.out w0 hA1)
  have HM := hidA hmay
  clear c0 c1 hb0 hr0 hmay Hh
  obtain ⟨c0, c1⟩ := hA1.cells
  clear hA1
  go_wp2_with (go_at_call 5; refine Hh1.out.mono ?_)
  rintro e w1 ⟨⟨r, rfl⟩, hb1⟩
  have hA2 := HA1.out.call hb1
  have HA2 := hidA hA2
  clear c0 c1 hb1
  cases r with
  | true =>
    clear hA2
    go_wp2
    go_ret
    exact ⟨rfl, HA2.out.out⟩
  | false =>
    clear hA2
    go_wp2
    go_loopw [5] (fun i wr => ∃ k : Nat, k ≤ f.len + 1 ∧ k ≤ 40 ∧ i = .int .i64 k ∧ AskC (.slice a l.length cap) (.slice a' f.len cap') l f w wr) (fun i _ => 40 - (intOf i).toNat)
    case atStart => exact ⟨0, by omega, by omega, rfl, HA2.out⟩
    case round =>
      obtain ⟨k, hk, hk40, rfl, hA⟩ := hrel
      obtain ⟨c0, c1⟩ := hA.cells
      have HA := hidA hA
      by_cases hlt : (k ≤ f.len ∧ k < 40) ∧ r0 = true
      · obtain ⟨⟨hlt, hlt40⟩, rfl⟩ := hlt
        obtain ⟨a1, hfs1, hr1⟩ := slice_to hA.fs k hlt hcap
        obtain ⟨a2, hfs2, hr2⟩ := slice_from hA.fs k hlt hcap
        have Ho1 := hidA (need_any _ _ wr hfs1 (by rw [Fo.take_len k f hlt]; omega) (WfB.take k f HWB.out))
        have HF2 := hidA hfs2
        have hd2 : (f.drop k).len ≤ 3518437208780 := by rw [Fo.drop_len]; omega
        have hki : (k : Int) ≤ f.len := by omega
        have hk1 : (k : Int) < 40 := by omega
        have hp := hidA (fun hx hy => parts_any (f := f) (k := k) (HM.out rfl) hx hy)
        have cx := nE_cases (f.take k)
        have cy := nE_cases (f.drop k)
        have Ho2 := hidA (fun W (hb : Below wr.heap.size wr W) => need_any _ _ W (HF2.out.below hb) hd2 (WfB.drop k f HWB.out))
        have Ho3 := hidA (fun W (hA : AskC (.slice a l.length cap) (.slice a' f.len cap') l f w W) => need_any _ _ W hA.fs hfl HWB.out)
        unfold NeedR at Ho1 Ho2
        generalize nL (f.take k) = A at Ho1 hp cx
        generalize nP (f.take k) = M at Ho1 hp cx
        generalize nE (f.take k) = E at Ho1 hp cx
        generalize nL (f.drop k) = B at Ho2 hp cy
        generalize nP (f.drop k) = N at Ho2 hp cy
        generalize nE (f.drop k) = F at Ho2 hp cy
        clear hA hfs1 hfs2
        go_wp2_with (go_at_call 10; refine Ho1.out.mono ?_)
        rintro e w3 rfl hb3
        have hA3 := HA.out.call hb3
        have HA3 := hidA hA3
        have Hq := hidA (Ho2.out w3 hb3)
        clear c0 c1 hb3
        obtain ⟨c0, c1⟩ := hA3.cells
        clear hA3
        go_wp2_with (go_at_call 10; refine Hq.out.mono ?_)
        rintro e w4 ⟨rfl, hb4⟩
        have hA4 := HA3.out.call hb4
        have HA4 := hidA hA4
        have Hz := hidA (Ho3.out w4 hA4)
        clear c0 c1 hb4
        obtain ⟨c0, c1⟩ := hA4.cells
        clear hA4
        by_cases hE : E = 0
        · subst hE
          by_cases hFz : F = 0
          · subst hFz
            have hpp := hp.out rfl rfl
            have hcx : 0 ≤ A ∧ A ≤ M ∧ M ≤ 16 := by rcases cx with h | h | h <;> omega
            have hcy : 0 ≤ B ∧ B ≤ N ∧ N ≤ 16 := by rcases cy with h | h | h <;> omega
            clear cx cy
            unfold NeedR nL nP nE at Hz
            by_cases hAN : A + N ≤ 16
            · rw [hpp.1 hAN] at Hz
              have hMx : (M < A + N ∧ max M (A + N) = A + N) ∨ (A + N ≤ M ∧ max M (A + N) = M) := by omega
              clear hpp
              rcases hMx with ⟨hM, hMe⟩ | ⟨hM, hMe⟩
              all_goals
                simp only [hMe] at Hz
                clear hMe
                go_wp2_with (first | (go_at_call 11; refine (Hn.out _ _).mono ?_; rintro e w' ⟨rfl, rfl⟩) | (go_at_call 10; refine Hz.out.mono ?_))
                rintro e w5 ⟨rfl, hb5⟩
                have HA5 := hidA (HA4.out.call hb5)
                clear hb5 c0 c1
                go_wp2_with (first | (go_at_call 11; refine (Hn.out _ _).mono ?_; rintro e w' ⟨rfl, rfl⟩))
                go_roundw
                case rel => exact ⟨k + 1, by omega, by omega, by go_num, HA5.out⟩
                case measure => simp [intOf]; omega
            · rw [hpp.2 (by omega)] at Hz
              have hAN' : 16 < A + N := by omega
              clear hpp hAN
              go_wp2_with (first | (go_at_call 11; refine (Hn.out _ _).mono ?_; rintro e w' ⟨rfl, rfl⟩) | (go_at_call 10; refine Hz.out.mono ?_))
              rintro e w5 ⟨rfl, hb5⟩
              have HA5 := hidA (HA4.out.call hb5)
              clear hb5 c0 c1
              go_wp2_with (first | (go_at_call 11; refine (Hn.out _ _).mono ?_; rintro e w' ⟨rfl, rfl⟩))
              go_roundw
              case rel => exact ⟨k + 1, by omega, by omega, by go_num, HA5.out⟩
              case measure => simp [intOf]; omega
          · have hFe : (F == 0) = false := beq_eq_false_iff_ne.2 hFz
            have hFn : (F != 0) = true := by simp [hFz]
            clear cx cy hp
            go_wp2_with (first | (go_at_call 11; refine (Hn.out _ _).mono ?_; rintro e w' ⟨rfl, rfl⟩))
            go_roundw
            case rel => exact ⟨k + 1, by omega, by omega, by go_num, HA4.out⟩
            case measure => simp [intOf]; omega
        · have hEe : (E == 0) = false := beq_eq_false_iff_ne.2 hE
          have hEn : (E != 0) = true := by simp [hE]
          clear cx cy hp
          go_wp2_with (first | (go_at_call 11; refine (Hn.out _ _).mono ?_; rintro e w' ⟨rfl, rfl⟩))
          go_roundw
          case rel => exact ⟨k + 1, by omega, by omega, by go_num, HA4.out⟩
          case measure => simp [intOf]; omega
      · have hway : ((f.len : Int) < (k : Int)) ∨ ((k : Int) ≤ (f.len : Int) ∧ (40 : Int) ≤ (k : Int)) ∨ ((k : Int) ≤ (f.len : Int) ∧ (k : Int) < 40 ∧ r0 = false) := by
          cases r0 <;> simp at hlt ⊢ <;> omega
        clear hlt hA
        rename World => w9
        rcases hway with h1 | ⟨h1, h2⟩ | ⟨h1, h2, rfl⟩
        all_goals
          go_wp2
          clear c0 c1
          go_loopw [16] (fun i wr => ∃ q : Nat, q ≤ 5 ∧ i = .int .i64 q ∧ Hid (Below (wrongW w9).heap.size (wrongW w9) wr)) (fun i _ => 5 - (intOf i).toNat)
          case atStart => exact ⟨0, by omega, rfl, Below.refl _ _⟩
          case round =>
            obtain ⟨q, hq5, rfl, HB⟩ := hrel
            have HW := hidA (wrong_bel w9)
            by_cases hq : q < 5
            · obtain ⟨ad, n, g, cq, hfq, hlq, hwq, hnq⟩ := wrong_at HB.out q hq
              have Hz := hidA (need_any g _ wr hfq hlq hwq)
              unfold NeedR nL nP nE at Hz
              rw [hnq] at Hz
              have hqi : (q : Int) < 5 := by omega
              have hq0 : (0 : Int) ≤ q := by omega
              clear hfq hwq hnq hq
              go_wp2_with (first | (go_at_call 11; refine (Hn.out _ _).mono ?_; rintro e w' ⟨rfl, rfl⟩) | (go_at_call 10; refine Hz.out.mono ?_))
              rintro e w5 rfl hb5
              have HB5 := hidA (HB.out.trans (hb5.mono HB.out.size))
              clear hb5 cq
              go_wp2_with (go_at_call 11; refine (Hn.out _ _).mono ?_; rintro e w' ⟨rfl, rfl⟩)
              go_roundw
              case rel => exact ⟨q + 1, by omega, by go_num, HB5⟩
              case measure => simp [intOf]; omega
            · have hqi : (5 : Int) ≤ q := by omega
              have hqe : q = 5 := by omega
              have hf1 := (HW.out.1.trans (HB.out.mono (by have := HW.out.2; omega)))
              have Hw := hidA (wakes7_any wr)
              have Hi := hidA within_any
              have hs1 := HA.out.out.size
              have HF := hidA (HA.out.out.trans (hf1.mono hs1))
              have hs2 := HF.out.size
              subst hqe
              clear hq hf1 hq5 hqi
              go_wp2_with (first | (go_at_call 12; refine (Hi.out _).mono ?_; rintro e w' ⟨rfl, rfl⟩) | (go_at_call 8; refine Hw.out.mono ?_))
              rintro e w8 ⟨rfl, hb8⟩
              have HF8 := hidA (HF.out.trans (hb8.mono hs2))
              clear hb8
              go_wp2
              go_ret
              exact ⟨rfl, HF8.out⟩
end Go.Proofs.Ytjegnffhegiajaa
