/- LangTexts: the walk. -/
import Derived.Test.YtaaijlkjbmpegaaDoorLLaw
import Derived.Test.YtaaijlkjbmpegaaDoorLRText
namespace Go.Proofs.YtaaijlkjbmpegaaDoor
open Go.RowKit Go.Shelf
set_option linter.unusedVariables false
set_option maxRecDepth 100000

/-- The page's count. -/
def OpsR (f : Fo) (e : Ending) : Prop := (May f ∧ e = .returned (.tuple #[.int .i64 (tot f : Int), .bool true])) ∨ (¬ May f ∧ ∃ z, e = .returned (.tuple #[.int .i64 z, .bool false]))
theorem rops_any (f : Fo) (v : Value) (w : World) (h : FS QA w v f) (hl : f.len ≤ 3518437208780) (hwf : WfB f) :
    Calls Tryd.prog 15 #[v] w fun e w' => OpsR f e ∧ Below w.heap.size w w' := by
  have Hc := hidN (rcount_sz f.sz f v w 0 0 (Nat.le_refl _) h hl hwf (by omega) (by omega))
  rw [show ((0 : Nat) : Int) = 0 from rfl] at Hc
  obtain ⟨a, cap, rfl⟩ := h.val
  clear h hl hwf
  go_enter Tryd.func15, Tryd.ntmps15
  go_wp2_with (go_at_call 27; refine Hc.out.mono ?_)
  rintro e w1 ⟨hr, hb⟩
  have HB := hidN hb
  clear hb
  rcases hr with ⟨⟨h1, h2⟩, rfl⟩ | ⟨h1, z, rfl⟩
  · have HR : Hid (OpsR f (.returned (.tuple #[.int .i64 ((0 + tot f : Nat) : Int), .bool true]))) := .inl ⟨⟨h1, by omega⟩, by rw [Nat.zero_add]⟩
    generalize ((0 + tot f : Nat) : Int) = z at HR ⊢
    clear h1 h2
    go_wp2
    go_ret2
    exact ⟨HR.out, HB.out⟩
  · have HR : Hid (OpsR f (.returned (.tuple #[.int .i64 z, .bool false]))) := .inr ⟨fun h => h1 ⟨h.1, by have := h.2; omega⟩, z, rfl⟩
    clear h1
    go_wp2
    go_ret2
    exact ⟨HR.out, HB.out⟩

theorem txtR_no {f : Fo} {e : Ending} (h : TxtR f e) (hm : ¬ May f) : e = .returned (.tuple #[.string ⟨#[]⟩, .int .i64 1]) := by
  rcases h with ⟨_, h⟩ | ⟨⟨h1, _⟩, _⟩ | ⟨⟨h1, _⟩, _⟩
  · exact h
  · exact absurd h1 hm
  · exact absurd h1 hm
theorem txtR_long {f : Fo} {e : Ending} (h : TxtR f e) (hm : May f) (hl : 512 < (textOf f).length) : e = .returned (.tuple #[.string ⟨#[]⟩, .int .i64 2]) := by
  rcases h with ⟨h1, _⟩ | ⟨_, h⟩ | ⟨⟨_, h1⟩, _⟩
  · exact absurd hm h1
  · exact h
  · omega
theorem txtR_ok {f : Fo} {e : Ending} (h : TxtR f e) (hm : May f) (hl : (textOf f).length ≤ 512) : e = .returned (.tuple #[.string (ba (textOf f)), .int .i64 0]) := by
  rcases h with ⟨h1, _⟩ | ⟨⟨_, h1⟩, _⟩ | ⟨_, h⟩
  · exact absurd hm h1
  · omega
  · exact h
theorem cntR_no {f : Fo} {e : Ending} (h : CntR f e) (hm : ¬ May f) : e = .returned (.tuple #[.int .i64 0, .int .i64 1]) := by
  rcases h with ⟨h1, _⟩ | ⟨_, h⟩
  · exact absurd h1 hm
  · exact h
theorem cntR_ok {f : Fo} {e : Ending} (h : CntR f e) (hm : May f) : e = .returned (.tuple #[.int .i64 (tot f : Int), .int .i64 0]) := by
  rcases h with ⟨_, h⟩ | ⟨h1, _⟩
  · exact h
  · exact absurd hm h1
theorem chkR_no {f : Fo} {e : Ending} (h : ChkR f e) (hm : ¬ May f) : e = .returned (.int .i64 1) := by
  rcases h with ⟨h1, _⟩ | ⟨_, h⟩
  · exact absurd h1 hm
  · exact h
theorem chkR_ok {f : Fo} {e : Ending} (h : ChkR f e) (hm : May f) : e = .returned (.int .i64 0) := by
  rcases h with ⟨_, h⟩ | ⟨h1, _⟩
  · exact h
  · exact absurd hm h1

set_option maxHeartbeats 3200000 in
theorem lawlt (vs vl : Value) (l : List ByteArray) (f : Fo) (w : World) (hS : SS w vs l ∧ List.length l ≤ 8796093021952 ∧ WfS l) (hF : FS QA w vl f ∧ f.len ≤ 3518437208780 ∧ WfB f ∧ WfN f) (hE : Env w) :
    Calls Tryd.prog 4 #[.agg #[vs, vl]] w fun e w' => e = .returned (.bool true) ∧ Below w.heap.size w w' := by
  have hA0 := AskRel.start hS.1 hF.1 hE
  have HA0 := hidA hA0
  have Hh := hidA (heavy_any vs vl l f _ ⟨hA0.ss, hS.2⟩ ⟨hA0.fs, hF.2⟩)
  have Hn := hidA num_any
  have HF := hidA hF.2
  obtain ⟨a, cap, rfl, _⟩ := hS.1
  obtain ⟨a', cap', rfl⟩ := hF.1.val
  clear hS hF hE hA0
  go_enter Tryd.func4, Tryd.ntmps4
  go_wp2_with (go_at_call 7; refine Hh.out.mono ?_)
  rintro e w1 ⟨⟨r, rfl⟩, hb1⟩
  have hA1 := HA0.out.call hb1
  cases r with
  | true =>
    go_wp2
    go_ret
    exact ⟨rfl, hA1.out⟩
  | false =>
    have HA1 := hidA hA1
    have Hcp := hidA (copyO_any f _ w1 hA1.fs HF.out.1 HF.out.2.1)
    obtain ⟨c0, c1⟩ := hA1.cells
    clear hA1 hb1
    go_wp2_with (go_at_call 14; refine Hcp.out.mono ?_)
    rintro e w2 ⟨v2, rfl, hown, hb2⟩
    have hA2 := HA1.out.call hb2
    have HA2 := hidA hA2
    have HO2 := hidA hown.fs.arg
    obtain ⟨a2, cap2, rfl⟩ := hown.len
    have Hops := hidA (rops_any f _ w2 hA2.fs HF.out.1 HF.out.2.1)
    clear c0 c1 hb2 hown
    obtain ⟨c0, c1⟩ := hA2.cells
    clear hA2
    go_wp2_with (go_at_call 15; refine Hops.out.mono ?_)
    rintro e w3 ⟨hr, hb3⟩
    have hA3 := HA2.out.call hb3
    have HA3 := hidA hA3
    have HO3 := hidA (HO2.out.below hb3)
    clear c0 c1 hb3
    by_cases hmay : May f
    · obtain rfl : e = .returned (.tuple #[.int .i64 (tot f : Int), .bool true]) := by
        rcases hr with ⟨_, h⟩ | ⟨h1, _⟩
        · exact h
        · exact absurd hmay h1
      clear hr
      have hrt := rtext_sz f.sz f _ w3 0 (Nat.le_refl _) hA3.fs HF.out.1 HF.out.2.1 HF.out.2.2 hmay.1 hmay.2
      rw [(txt_jt f 0 hmay.1).2] at hrt
      have Hrt := hidA hrt
      clear hrt
      obtain ⟨c0, c1⟩ := hA3.cells
      clear hA3
      go_wp2_with (go_at_call 16; refine Hrt.out.mono ?_)
      rintro e w4 ⟨rfl, hb4⟩
      have HA4 := hidA (HA3.out.call hb4)
      have HO4 := hidA (HO3.out.below hb4)
      clear hb4 c0 c1 Hrt
      have htsz : (ba (textOf f)).size = (textOf f).length := by rw [← L_len, L_ba]
      obtain ⟨t, ht⟩ : ∃ t, ba (textOf f) = t := ⟨_, rfl⟩
      have HT := hidA ht
      obtain ⟨m, hm⟩ : ∃ m : Int, (tot f : Int) = m := ⟨_, rfl⟩
      have HM := hidA hm
      have HMay := hidA hmay
      rw [ht] at htsz ⊢
      rw [hm]
      clear ht hm hmay
      by_cases hlen : (textOf f).length ≤ 512
      · have hti : (t.size : Int) ≤ 512 := by omega
        have HLen := hidA hlen
        clear hlen htsz
        have Ht := hidA (text_any f _ w4 HO4.out HF.out.1 HF.out.2.1 HF.out.2.2 HA4.out.env)
        go_wp2_with (go_at_call 17; refine Ht.out.mono ?_)
        rintro e w5 ⟨hr, hb5⟩
        obtain rfl := (txtR_ok hr HMay.out HLen.out).trans (show _ = Ending.returned (.tuple #[.string t, .int .i64 0]) by rw [HT.out])
        have HA5 := hidA (HA4.out.call hb5)
        have HO5 := hidA (HO4.out.below hb5)
        clear hb5 hr Ht
        have Hc := hidA (cnt_any f _ w5 HO5.out HF.out.1 HF.out.2.1)
        go_wp2_with (go_at_call 18; refine Hc.out.mono ?_)
        rintro e w6 ⟨hr, hb6⟩
        obtain rfl := (cntR_ok hr HMay.out).trans (show _ = Ending.returned (.tuple #[.int .i64 m, .int .i64 0]) by rw [HM.out])
        have HA6 := hidA (HA5.out.call hb6)
        have HO6 := hidA (HO5.out.below hb6)
        clear hb6 hr Hc
        have Hk := hidA (chk_any f _ w6 HO6.out HF.out.1 HF.out.2.1)
        go_wp2_with (go_at_call 19; refine Hk.out.mono ?_)
        rintro e w7 ⟨hr, hb7⟩
        obtain rfl := chkR_ok hr HMay.out
        have HA7 := hidA (HA6.out.call hb7)
        have HO7 := hidA (HO6.out.below hb7)
        clear hb7 hr Hk
        have Heq := hidA (eqO_any f _ _ w7 HO7.out HA7.out.fs HF.out.1 HF.out.2.1)
        obtain ⟨c0, c1⟩ := HA7.out.cells
        go_wp2_with (first | (go_at_call 10; refine (Hn.out _ _).mono ?_; rintro e w' ⟨rfl, rfl⟩) | (go_at_call 11; refine Heq.out.mono ?_))
        rintro e w8 ⟨rfl, hd8⟩
        have HA8 := hidA (HA7.out.call hd8.low)
        have hsz8 := HA8.out.lt
        have Hw := hidA (wakes_any w8 HA8.out.env)
        clear hd8 c0 c1
        go_wp2_with (go_at_call 13; refine Hw.out.mono ?_)
        rintro e w9 ⟨rfl, hb9⟩
        go_wp2
        go_ret
        exact ⟨rfl, HA8.out.out.trans (hb9.mono (by omega))⟩
      · have hti : (512 : Int) < (t.size : Int) := by omega
        have HLen := hidA hlen
        clear hlen htsz
        have Ht := hidA (text_any f _ w4 HO4.out HF.out.1 HF.out.2.1 HF.out.2.2 HA4.out.env)
        go_wp2_with (go_at_call 17; refine Ht.out.mono ?_)
        rintro e w5 ⟨hr, hb5⟩
        obtain rfl := txtR_long hr HMay.out (by have := HLen.out; omega)
        have HA5 := hidA (HA4.out.call hb5)
        have HO5 := hidA (HO4.out.below hb5)
        clear hb5 hr Ht
        have Hc := hidA (cnt_any f _ w5 HO5.out HF.out.1 HF.out.2.1)
        go_wp2_with (go_at_call 18; refine Hc.out.mono ?_)
        rintro e w6 ⟨hr, hb6⟩
        obtain rfl := (cntR_ok hr HMay.out).trans (show _ = Ending.returned (.tuple #[.int .i64 m, .int .i64 0]) by rw [HM.out])
        have HA6 := hidA (HA5.out.call hb6)
        have HO6 := hidA (HO5.out.below hb6)
        clear hb6 hr Hc
        have Hk := hidA (chk_any f _ w6 HO6.out HF.out.1 HF.out.2.1)
        go_wp2_with (go_at_call 19; refine Hk.out.mono ?_)
        rintro e w7 ⟨hr, hb7⟩
        obtain rfl := chkR_ok hr HMay.out
        have HA7 := hidA (HA6.out.call hb7)
        have HO7 := hidA (HO6.out.below hb7)
        clear hb7 hr Hk
        have Heq := hidA (eqO_any f _ _ w7 HO7.out HA7.out.fs HF.out.1 HF.out.2.1)
        obtain ⟨c0, c1⟩ := HA7.out.cells
        go_wp2_with (first | (go_at_call 10; refine (Hn.out _ _).mono ?_; rintro e w' ⟨rfl, rfl⟩) | (go_at_call 11; refine Heq.out.mono ?_))
        rintro e w8 ⟨rfl, hd8⟩
        have HA8 := hidA (HA7.out.call hd8.low)
        have hsz8 := HA8.out.lt
        have Hw := hidA (wakes_any w8 HA8.out.env)
        clear hd8 c0 c1
        go_wp2_with (go_at_call 13; refine Hw.out.mono ?_)
        rintro e w9 ⟨rfl, hb9⟩
        go_wp2
        go_ret
        exact ⟨rfl, HA8.out.out.trans (hb9.mono (by omega))⟩
    · obtain ⟨z, rfl⟩ : ∃ z, e = .returned (.tuple #[.int .i64 z, .bool false]) := by
        rcases hr with ⟨h1, _⟩ | ⟨_, h⟩
        · exact absurd h1 hmay
        · exact h
      clear hr hA3
      have HMay := hidA hmay
      clear hmay
      have Ht := hidA (text_any f _ w3 HO3.out HF.out.1 HF.out.2.1 HF.out.2.2 HA3.out.env)
      go_wp2_with (go_at_call 17; refine Ht.out.mono ?_)
      rintro e w5 ⟨hr, hb5⟩
      obtain rfl := txtR_no hr HMay.out
      have HA5 := hidA (HA3.out.call hb5)
      have HO5 := hidA (HO3.out.below hb5)
      clear hb5 hr Ht
      have Hc := hidA (cnt_any f _ w5 HO5.out HF.out.1 HF.out.2.1)
      go_wp2_with (go_at_call 18; refine Hc.out.mono ?_)
      rintro e w6 ⟨hr, hb6⟩
      obtain rfl := cntR_no hr HMay.out
      have HA6 := hidA (HA5.out.call hb6)
      have HO6 := hidA (HO5.out.below hb6)
      clear hb6 hr Hc
      have Hk := hidA (chk_any f _ w6 HO6.out HF.out.1 HF.out.2.1)
      go_wp2_with (go_at_call 19; refine Hk.out.mono ?_)
      rintro e w7 ⟨hr, hb7⟩
      obtain rfl := chkR_no hr HMay.out
      have HA7 := hidA (HA6.out.call hb7)
      have HO7 := hidA (HO6.out.below hb7)
      clear hb7 hr Hk
      have Heq := hidA (eqO_any f _ _ w7 HO7.out HA7.out.fs HF.out.1 HF.out.2.1)
      obtain ⟨c0, c1⟩ := HA7.out.cells
      go_wp2_with (first | (go_at_call 10; refine (Hn.out _ _).mono ?_; rintro e w' ⟨rfl, rfl⟩) | (go_at_call 11; refine Heq.out.mono ?_))
      rintro e w8 ⟨rfl, hd8⟩
      have HA8 := hidA (HA7.out.call hd8.low)
      have hsz8 := HA8.out.lt
      have Hw := hidA (wakes_any w8 HA8.out.env)
      clear hd8 c0 c1
      go_wp2_with (go_at_call 13; refine Hw.out.mono ?_)
      rintro e w9 ⟨rfl, hb9⟩
      go_wp2
      go_ret
      exact ⟨rfl, HA8.out.out.trans (hb9.mono (by omega))⟩
end Go.Proofs.YtaaijlkjbmpegaaDoor
