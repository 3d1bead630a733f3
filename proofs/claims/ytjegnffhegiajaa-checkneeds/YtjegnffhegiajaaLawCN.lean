/- CheckNeeds: the walk. -/
import Derived.Test.YtjegnffhegiajaaCLaw
import Derived.Test.YtjegnffhegiajaaAskC
import Derived.Test.YtjegnffhegiajaaLRParse
import Derived.Deep.CutBlock
namespace Go.Proofs.Ytjegnffhegiajaa
open Go.RowKit
set_option linter.unusedVariables false
set_option maxRecDepth 100000

set_option maxHeartbeats 1600000 in
theorem lawcn (vs vl : Value) (l : List ByteArray) (f : Fo) (w : World) (hS : SS w vs l ∧ List.length l ≤ 8796093021952 ∧ WfS l) (hF : FS QA w vl f ∧ f.len ≤ 3518437208780 ∧ WfB f ∧ WfN f) (hcp : Capd vl) :
    Calls Try.prog 3 #[.agg #[vs, vl]] w fun e w' => e = .returned (.bool true) ∧ Below w.heap.size w w' := by
  have hA0 := AskC.start hS.1 hF.1
  have HA0 := hidA hA0
  have Hh := hidA (heavy_any vs vl l f _ ⟨hA0.ss, hS.2⟩ ⟨hA0.fs, hF.2⟩)
  have hl := hS.2.1
  have HWS := hidA hS.2.2
  have HWB := hidA hF.2.2.1
  have hfl := hF.2.1
  obtain ⟨a, cap, rfl, _⟩ := hS.1
  obtain ⟨a', cap', rfl⟩ := hF.1.val
  have hcap : f.len ≤ cap' := by obtain ⟨_, _, _, e, h, _⟩ := hcp; injection e with e1 e2 e3; omega
  clear hS hF hA0 hcp
  go_enter Try.func3, Try.ntmps3
  go_wp2_with (go_at_call 5; refine Hh.out.mono ?_)
  rintro e w1 ⟨⟨r, rfl⟩, hb1⟩
  have hA1 := HA0.out.call hb1
  cases r with
  | true =>
    go_wp2
    go_ret
    exact ⟨rfl, hA1.out⟩
  | false =>
    have HA1 := hidA hA1
    have Ho := hidA (one_any f _ w1 hA1.fs hfl HWB.out)
    obtain ⟨c0, c1⟩ := hA1.cells
    clear hA1 hb1
    go_wp2_with (go_at_call 6; refine Ho.out.mono ?_)
    rintro e w2 ⟨rfl, hb2⟩
    have HA2 := hidA (HA1.out.call hb2)
    clear hb2 c0 c1
    go_wp2
    go_loopw [3] (fun i wr => ∃ k : Nat, k ≤ f.len ∧ k ≤ 40 ∧ i = .int .i64 k ∧ AskC (.slice a l.length cap) (.slice a' f.len cap') l f w wr) (fun i _ => 40 - (intOf i).toNat)
    case atStart => exact ⟨0, by omega, by omega, rfl, HA2.out⟩
    case round =>
      obtain ⟨k, hk, hk40, rfl, hA⟩ := hrel
      obtain ⟨c0, c1⟩ := hA.cells
      have HA := hidA hA
      by_cases hlt : k < f.len ∧ k < 40
      · obtain ⟨hlt, hlt40⟩ := hlt
        obtain ⟨a1, hfs1, hr1⟩ := slice_to hA.fs k hk hcap
        obtain ⟨a2, hfs2, hr2⟩ := slice_from hA.fs k hk hcap
        have Ho1 := hidA (one_any _ _ wr hfs1 (by rw [Fo.take_len k f hk]; omega) (WfB.take k f HWB.out))
        have HF2 := hidA hfs2
        have hd2 : (f.drop k).len ≤ 3518437208780 := by rw [Fo.drop_len]; omega
        have hki : (k : Int) < f.len := by omega
        have hk1 : (k : Int) < 40 := by omega
        clear hA hfs1 hfs2
        go_wp2_with fail
        refine Ho1.out.mono ?_
        rintro e w3 ⟨rfl, hb3⟩
        have hA3 := HA.out.call hb3
        have HA3 := hidA hA3
        have Ho2 := hidA (one_any _ _ w3 (HF2.out.below hb3) hd2 (WfB.drop k f HWB.out))
        clear c0 c1 hb3
        obtain ⟨c0, c1⟩ := hA3.cells
        clear hA3
        go_wp2_with fail
        refine Ho2.out.mono ?_
        rintro e w4 ⟨rfl, hb4⟩
        have HA4 := hidA (HA3.out.call hb4)
        clear c0 c1 hb4
        go_wp2
        go_roundw
        case rel => exact ⟨k + 1, by omega, by omega, by go_num, HA4.out⟩
        case measure => simp [intOf]; omega
      · have hway : ((f.len : Int) ≤ (k : Int)) ∨ ((k : Int) < (f.len : Int) ∧ (40 : Int) ≤ (k : Int)) := by omega
        clear hlt hA
        have HK := hidA (And.intro hk hk40)
        rename World => w0
        rcases hway with h1 | ⟨h1, h2⟩
        all_goals
          go_wp2
          clear c0 c1
          go_loopw [4] (fun i wr => ∃ k : Nat, k ≤ l.length ∧ k ≤ 10 ∧ i = .int .i64 k ∧ AskC (.slice a l.length cap) (.slice a' f.len cap') l f w wr) (fun i _ => 10 - (intOf i).toNat)
          case atStart => exact ⟨0, by omega, by omega, rfl, HA.out⟩
          case round =>
            obtain ⟨q, hq, hq10, rfl, hA⟩ := hrel
            obtain ⟨c0, c1⟩ := hA.cells
            have HB := hidA hA
            have hwr0 := hA.lt
            by_cases hlt : q < l.length ∧ q < 10
            · obtain ⟨hlt, hlt10⟩ := hlt
              obtain ⟨y, hy⟩ := getSome hlt
              obtain ⟨g, o, hae, hgl, hat⟩ : ∃ g o, a = some ⟨g, o, none⟩ ∧ g < wr.heap.size ∧ StrsAt wr g o l := by
                obtain ⟨a0, cap0, e0, h0⟩ := hA.ss
                injection e0 with e0 _ _
                subst e0
                rcases h0 with h0 | ⟨g, o, h1, h2, h3⟩
                · subst h0; simp at hlt
                · exact ⟨g, o, h1, h2, h3⟩
              subst hae
              have cy := hat q y hy
              have hys := HWS.out y (List.mem_of_getElem? hy)
              have Hp := hidA (rparse_any y wr hys (by omega))
              have hq0 : (0 : Int) ≤ q := by omega
              have hqi : (q : Int) < l.length := by omega
              have hq1 : (q : Int) < 10 := by omega
              clear hA hat hy
              go_wp2_with (go_at_call 7; refine Hp.out.mono ?_)
              rintro e w3 ⟨r, hp, hb3, hres⟩
              have HA3 := hidA (HB.out.call hb3)
              have HP := hidA hp
              clear c0 c1 cy hp
              cases r with
              | err c =>
                obtain ⟨rfl, hc0⟩ := hres
                have hce : (c == 0) = false := beq_eq_false_iff_ne.2 hc0
                clear hb3 hc0
                go_wp2
                go_roundw
                case rel => exact ⟨q + 1, by omega, by omega, by go_num, HA3.out⟩
                case measure => simp [intOf]; omega
              | ok gf ws m =>
                obtain ⟨v3, rfl, hown3⟩ := hres
                obtain ⟨_, _, hgl3, hwb⟩ := prog_ok HP.out
                have Ho3 := hidA (one_any gf v3 w3 hown3.fs.arg hgl3 hwb)
                obtain ⟨a3, cap3, rfl⟩ := hown3.len
                clear hb3 hown3 hwb
                go_wp2_with (go_at_call 6; refine Ho3.out.mono ?_)
                rintro e w4 ⟨rfl, hb4⟩
                have HA4 := hidA (HA3.out.call hb4)
                clear hb4
                go_wp2
                go_roundw
                case rel => exact ⟨q + 1, by omega, by omega, by go_num, HA4.out⟩
                case measure => simp [intOf]; omega
            · have Hw := hidA (wakes7_any wr)
              have hway2 : ((l.length : Int) ≤ (q : Int)) ∨ ((q : Int) < (l.length : Int) ∧ (10 : Int) ≤ (q : Int)) := by omega
              clear hlt hA
              rcases hway2 with g1 | ⟨g1, g2⟩
              all_goals
                go_wp2_with (go_at_call 8; refine Hw.out.mono ?_)
                rintro e w9 ⟨rfl, hb9⟩
                have hfin := HB.out.out.trans (hb9.mono (by omega))
                go_wp2
                go_ret
                exact ⟨rfl, hfin⟩
end Go.Proofs.Ytjegnffhegiajaa
