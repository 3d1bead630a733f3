/- LangBack: the walk. -/
import Derived.Test.YtaaijlkjbmpegaaDoorLLaw
namespace Go.Proofs.YtaaijlkjbmpegaaDoor
open Go.RowKit Go.Shelf
set_option linter.unusedVariables false
set_option maxRecDepth 100000

set_option maxHeartbeats 3200000 in
theorem lawlb (vs vl : Value) (l : List ByteArray) (f : Fo) (w : World) (hS : SS w vs l ∧ List.length l ≤ 8796093021952 ∧ WfS l) (hF : FS QA w vl f ∧ f.len ≤ 3518437208780 ∧ WfB f ∧ WfN f) (hE : Env w) :
    Calls Tryd.prog 5 #[.agg #[vs, vl]] w fun e w' => e = .returned (.bool true) ∧ Below w.heap.size w w' := by
  have hA0 := AskRel.start hS.1 hF.1 hE
  have HA0 := hidA hA0
  have Hh := hidA (heavy_any vs vl l f _ ⟨hA0.ss, hS.2⟩ ⟨hA0.fs, hF.2⟩)
  have Hn := hidA num_any
  have hl := hS.2.1
  have HWS := hidA hS.2.2
  have HF := hidA hF.2
  obtain ⟨a, cap, rfl, _⟩ := hS.1
  obtain ⟨a', cap', rfl⟩ := hF.1.val
  clear hS hF hE hA0
  go_enter Tryd.func5, Tryd.ntmps5
  go_wp2_with (go_at_call 7; refine Hh.out.mono ?_)
  rintro e w1 ⟨⟨r, rfl⟩, hb1⟩
  have hA1 := HA0.out.call hb1
  cases r with
  | true =>
    go_wp2
    go_ret
    exact ⟨rfl, hA1.out⟩
  | false =>
    have HA1 := hidA hA1
    have Ht := hidA (text_any f _ w1 hA1.fs HF.out.1 HF.out.2.1 HF.out.2.2 hA1.env)
    obtain ⟨c0, c1⟩ := hA1.cells
    clear hA1 hb1
    go_wp2_with (go_at_call 17; refine Ht.out.mono ?_)
    rintro e w2 ⟨htx, hb2⟩
    have hA2 := HA1.out.call hb2
    have HA2 := hidA hA2
    clear c0 c1 hb2 hA2
    have hcase : (∃ s0 c, e = .returned (.tuple #[.string s0, .int .i64 c]) ∧ (c == 0) = false) ∨ ((May f ∧ (textOf f).length ≤ 512) ∧ e = .returned (.tuple #[.string (ba (textOf f)), .int .i64 0])) := by
      rcases htx with ⟨_, h⟩ | ⟨_, h⟩ | h
      · exact .inl ⟨_, _, h, by decide⟩
      · exact .inl ⟨_, _, h, by decide⟩
      · exact .inr h
    clear htx
    rcases hcase with ⟨s0, c, rfl, hc0⟩ | ⟨⟨hmay, hlen⟩, rfl⟩
    · go_wp2_with ((go_at_call 10; refine (Hn.out _ _).mono ?_; rintro e w' ⟨rfl, rfl⟩))
      go_loopw [7] (fun i wr => ∃ k : Nat, k ≤ l.length ∧ k ≤ 10 ∧ i = .int .i64 k ∧ AskRel (.slice a l.length cap) (.slice a' f.len cap') l f w wr) (fun i _ => 10 - (intOf i).toNat)
      case atStart => exact ⟨0, by omega, by omega, rfl, HA2.out⟩
      case round =>
        obtain ⟨k, hk, hk10, rfl, hA⟩ := hrel
        obtain ⟨c0, c1⟩ := hA.cells
        have HA := hidA hA
        by_cases hlt : k < l.length ∧ k < 10
        · obtain ⟨hlt, hlt10⟩ := hlt
          obtain ⟨y, hy⟩ := getSome hlt
          obtain ⟨g, o, hae, hgl, hat⟩ : ∃ g o, a = some ⟨g, o, none⟩ ∧ g < wr.heap.size ∧ StrsAt wr g o l := by
            obtain ⟨a0, cap0, e0, h0⟩ := hA.ss
            injection e0 with e0 _ _
            subst e0
            rcases h0 with h0 | ⟨g, o, h1, h2, h3⟩
            · subst h0; simp at hlt
            · exact ⟨g, o, h1, h2, h3⟩
          subst hae
          have cy := hat k y hy
          have hys := HWS.out y (List.mem_of_getElem? hy)
          have Hp := hidA (parse_any y wr hys hA.env)
          have hk0 : (0 : Int) ≤ k := by omega
          have hki : (k : Int) < l.length := by omega
          have hk1 : (k : Int) < 10 := by omega
          clear hA hat hy
          go_wp2_with (go_at_call 8; refine Hp.out.mono ?_)
          rintro e w3 ⟨r, hp, hb3, hres⟩
          have hA3 := HA.out.call hb3
          have HA3 := hidA hA3
          clear hb3 c0 c1 cy
          cases r with
          | err c =>
            obtain ⟨rfl, hc0⟩ := hres
            have hci : (c == 0) = false := beq_eq_false_iff_ne.2 hc0
            clear hp hA3
            go_wp2_with ((go_at_call 10; refine (Hn.out _ _).mono ?_; rintro e w' ⟨rfl, rfl⟩))
            go_roundw
            case rel => exact ⟨k + 1, by omega, by omega, by go_num, HA3.out⟩
            case measure => simp [intOf]; omega
          | ok gf ws m =>
            obtain ⟨v3, rfl, hown3⟩ := hres
            obtain ⟨hmay, hwn, hgl3, hwb⟩ := prog_ok hp
            have Ht := hidA (text_any gf v3 w3 hown3.fs.arg hgl3 hwb hwn hA3.env)
            have HO3 := hidA hown3.fs.arg
            have HM := hidA hmay
            have HWN := hidA hwn
            have HWB := hidA hwb
            obtain ⟨a3, cap3, rfl⟩ := hown3.len
            clear hp hA3 hown3 hmay hwn hwb
            go_wp2_with (first | (go_at_call 10; refine (Hn.out _ _).mono ?_; rintro e w' ⟨rfl, rfl⟩) | (go_at_call 17; refine Ht.out.mono ?_))
            rintro e w4 ⟨htx, hb4⟩
            have hA4 := HA3.out.call hb4
            have HA4 := hidA hA4
            have HO4 := hidA (HO3.out.below hb4)
            clear hb4
            rcases htx with ⟨hn, _⟩ | ⟨_, rfl⟩ | ⟨⟨_, hlen⟩, rfl⟩
            · exact absurd HM.out hn
            · clear hA4
              go_wp2_with ((go_at_call 10; refine (Hn.out _ _).mono ?_; rintro e w' ⟨rfl, rfl⟩))
              go_roundw
              case rel => exact ⟨k + 1, by omega, by omega, by go_num, HA4.out⟩
              case measure => simp [intOf]; omega
            · have HP4 := hidA (prog_text HM.out HWN.out hlen)
              have htsz : (ba (textOf gf)).size = (textOf gf).length := by rw [← L_len, L_ba]
              have Hp4 := hidA (parse_any (ba (textOf gf)) w4 (by omega) hA4.env)
              have HP2 := hidA (fun h : (textOf gf).length < 508 => prog_text2 HM.out HWN.out h)
              generalize htx : ba (textOf gf) = t at HP4 htsz Hp4 HP2 ⊢
              clear htx hA4
              go_wp2_with (first | (go_at_call 10; refine (Hn.out _ _).mono ?_; rintro e w' ⟨rfl, rfl⟩) | (go_at_call 8; refine Hp4.out.mono ?_))
              rintro e w5 ⟨r, hp, hb5, hres⟩
              obtain rfl := hp.unique HP4.out
              obtain ⟨v5, rfl, hown5⟩ := hres
              have hA5 := HA4.out.call hb5
              have HA5 := hidA hA5
              have hO5 := HO4.out.below hb5
              have HO5 := hidA hO5
              have Heq := hidA (eqO_any gf _ v5 w5 hO5 hown5.fs.arg hgl3 HWB.out)
              obtain ⟨a5, cap5, rfl⟩ := hown5.len
              clear hp hb5 hown5 hA5 hO5
              by_cases h508 : (textOf gf).length < 508
              · have hti : (t.size : Int) < 508 := by omega
                have HP6 := hidA (HP2.out h508)
                have hsz6 : ((⟨#[32, 10]⟩ : ByteArray) ++ t ++ ⟨#[10, 32]⟩).size ≤ 140737488351232 := by
                  rw [ByteArray.size_append, ByteArray.size_append]
                  show 2 + t.size + 2 ≤ _
                  omega
                clear h508 htsz hlen
                go_wp2_with (first | (go_at_call 10; refine (Hn.out _ _).mono ?_; rintro e w' ⟨rfl, rfl⟩) | (go_at_call 11; refine Heq.out.mono ?_; rintro e w6 ⟨rfl, hd6⟩))
                have hA6 := HA5.out.call hd6.low
                have HA6 := hidA hA6
                have HO6 := hidA (HO5.out.below hd6.low)
                refine (parse_any _ w6 hsz6 hA6.env).mono ?_
                rintro e w7 ⟨r, hp, hb7, hres⟩
                obtain rfl := hp.unique HP6.out
                obtain ⟨v7, rfl, hown7⟩ := hres
                have HA7 := hidA (HA6.out.call hb7)
                have Heq7 := hidA (eqO_any gf v7 _ w7 hown7.fs.arg (HO6.out.below hb7) hgl3 HWB.out)
                obtain ⟨a7, cap7, rfl⟩ := hown7.len
                clear hp hb7 hown7 hA6 hd6
                go_wp2_with (first | (go_at_call 10; refine (Hn.out _ _).mono ?_; rintro e w' ⟨rfl, rfl⟩) | (go_at_call 11; refine Heq7.out.mono ?_; rintro e w8 ⟨rfl, hd8⟩))
                have HA8 := hidA (HA7.out.call hd8.low)
                clear hd8
                go_roundw
                case rel => exact ⟨k + 1, by omega, by omega, by go_num, HA8.out⟩
                case measure => simp [intOf]; omega
              · have hti : (508 : Int) ≤ (t.size : Int) := by omega
                clear h508 htsz hlen
                go_wp2_with (first | (go_at_call 10; refine (Hn.out _ _).mono ?_; rintro e w' ⟨rfl, rfl⟩) | (go_at_call 11; refine Heq.out.mono ?_; rintro e w6 ⟨rfl, hd6⟩))
                have HA6 := hidA (HA5.out.call hd6.low)
                clear hd6
                go_roundw
                case rel => exact ⟨k + 1, by omega, by omega, by go_num, HA6.out⟩
                case measure => simp [intOf]; omega
        · have hw := hidA (wakes_any wr hA.env)
          have hlt' : l.length ≤ k ∨ 10 ≤ k := by omega
          have HO := hidA hA.out
          have hsz := hA.lt
          clear hA hlt
          rcases hlt' with h1 | h1
          · have h1i : (l.length : Int) ≤ k := by omega
            go_wp2_with (go_at_call 13; refine hw.out.mono ?_; rintro e w9 ⟨rfl, hb9⟩)
            go_ret
            exact ⟨rfl, HO.out.trans (hb9.mono (by omega))⟩
          · by_cases h2 : l.length ≤ k
            · have h2i : (l.length : Int) ≤ k := by omega
              go_wp2_with (go_at_call 13; refine hw.out.mono ?_; rintro e w9 ⟨rfl, hb9⟩)
              go_ret
              exact ⟨rfl, HO.out.trans (hb9.mono (by omega))⟩
            · obtain rfl : k = 10 := by omega
              have h2i : (10 : Int) < l.length := by omega
              go_wp2_with (go_at_call 13; refine hw.out.mono ?_; rintro e w9 ⟨rfl, hb9⟩)
              go_ret
              exact ⟨rfl, HO.out.trans (hb9.mono (by omega))⟩
    · have Hp := hidA (parse_any (ba (textOf f)) w2 (by rw [← L_len, L_ba]; omega) HA2.out.env)
      have HP := hidA (prog_text hmay HF.out.2.2 hlen)
      generalize ba (textOf f) = t at Hp HP ⊢
      clear hmay hlen
      go_wp2_with (first | (go_at_call 10; refine (Hn.out _ _).mono ?_; rintro e w' ⟨rfl, rfl⟩) | (go_at_call 8; refine Hp.out.mono ?_))
      rintro e w3 ⟨r, hp, hb3, hres⟩
      obtain rfl := hp.unique HP.out
      obtain ⟨v3, rfl, hown3⟩ := hres
      have hA3 := HA2.out.call hb3
      have HA3 := hidA hA3
      obtain ⟨c0, c1⟩ := hA3.cells
      have Heq := hidA (eqO_any f v3 _ w3 hown3.fs.arg hA3.fs HF.out.1 HF.out.2.1)
      obtain ⟨a3, cap3, rfl⟩ := hown3.len
      clear hA3 hb3 hown3 hp
      go_wp2_with (first | (go_at_call 10; refine (Hn.out _ _).mono ?_; rintro e w' ⟨rfl, rfl⟩) | (go_at_call 11; refine Heq.out.mono ?_; rintro e w4 ⟨rfl, hd4⟩))
      have hA4 := HA3.out.call hd4.low
      have HA2 := hidA hA4
      clear c0 c1 hA4 hd4 HA3
      go_loopw [7] (fun i wr => ∃ k : Nat, k ≤ l.length ∧ k ≤ 10 ∧ i = .int .i64 k ∧ AskRel (.slice a l.length cap) (.slice a' f.len cap') l f w wr) (fun i _ => 10 - (intOf i).toNat)
      case atStart => exact ⟨0, by omega, by omega, rfl, HA2.out⟩
      case round =>
        obtain ⟨k, hk, hk10, rfl, hA⟩ := hrel
        obtain ⟨c0, c1⟩ := hA.cells
        have HA := hidA hA
        by_cases hlt : k < l.length ∧ k < 10
        · obtain ⟨hlt, hlt10⟩ := hlt
          obtain ⟨y, hy⟩ := getSome hlt
          obtain ⟨g, o, hae, hgl, hat⟩ : ∃ g o, a = some ⟨g, o, none⟩ ∧ g < wr.heap.size ∧ StrsAt wr g o l := by
            obtain ⟨a0, cap0, e0, h0⟩ := hA.ss
            injection e0 with e0 _ _
            subst e0
            rcases h0 with h0 | ⟨g, o, h1, h2, h3⟩
            · subst h0; simp at hlt
            · exact ⟨g, o, h1, h2, h3⟩
          subst hae
          have cy := hat k y hy
          have hys := HWS.out y (List.mem_of_getElem? hy)
          have Hp := hidA (parse_any y wr hys hA.env)
          have hk0 : (0 : Int) ≤ k := by omega
          have hki : (k : Int) < l.length := by omega
          have hk1 : (k : Int) < 10 := by omega
          clear hA hat hy
          go_wp2_with (go_at_call 8; refine Hp.out.mono ?_)
          rintro e w3 ⟨r, hp, hb3, hres⟩
          have hA3 := HA.out.call hb3
          have HA3 := hidA hA3
          clear hb3 c0 c1 cy
          cases r with
          | err c =>
            obtain ⟨rfl, hc0⟩ := hres
            have hci : (c == 0) = false := beq_eq_false_iff_ne.2 hc0
            clear hp hA3
            go_wp2_with ((go_at_call 10; refine (Hn.out _ _).mono ?_; rintro e w' ⟨rfl, rfl⟩))
            go_roundw
            case rel => exact ⟨k + 1, by omega, by omega, by go_num, HA3.out⟩
            case measure => simp [intOf]; omega
          | ok gf ws m =>
            obtain ⟨v3, rfl, hown3⟩ := hres
            obtain ⟨hmay, hwn, hgl3, hwb⟩ := prog_ok hp
            have Ht := hidA (text_any gf v3 w3 hown3.fs.arg hgl3 hwb hwn hA3.env)
            have HO3 := hidA hown3.fs.arg
            have HM := hidA hmay
            have HWN := hidA hwn
            have HWB := hidA hwb
            obtain ⟨a3, cap3, rfl⟩ := hown3.len
            clear hp hA3 hown3 hmay hwn hwb
            go_wp2_with (first | (go_at_call 10; refine (Hn.out _ _).mono ?_; rintro e w' ⟨rfl, rfl⟩) | (go_at_call 17; refine Ht.out.mono ?_))
            rintro e w4 ⟨htx, hb4⟩
            have hA4 := HA3.out.call hb4
            have HA4 := hidA hA4
            have HO4 := hidA (HO3.out.below hb4)
            clear hb4
            rcases htx with ⟨hn, _⟩ | ⟨_, rfl⟩ | ⟨⟨_, hlen⟩, rfl⟩
            · exact absurd HM.out hn
            · clear hA4
              go_wp2_with ((go_at_call 10; refine (Hn.out _ _).mono ?_; rintro e w' ⟨rfl, rfl⟩))
              go_roundw
              case rel => exact ⟨k + 1, by omega, by omega, by go_num, HA4.out⟩
              case measure => simp [intOf]; omega
            · have HP4 := hidA (prog_text HM.out HWN.out hlen)
              have htsz : (ba (textOf gf)).size = (textOf gf).length := by rw [← L_len, L_ba]
              have Hp4 := hidA (parse_any (ba (textOf gf)) w4 (by omega) hA4.env)
              have HP2 := hidA (fun h : (textOf gf).length < 508 => prog_text2 HM.out HWN.out h)
              generalize htx : ba (textOf gf) = t at HP4 htsz Hp4 HP2 ⊢
              clear htx hA4
              go_wp2_with (first | (go_at_call 10; refine (Hn.out _ _).mono ?_; rintro e w' ⟨rfl, rfl⟩) | (go_at_call 8; refine Hp4.out.mono ?_))
              rintro e w5 ⟨r, hp, hb5, hres⟩
              obtain rfl := hp.unique HP4.out
              obtain ⟨v5, rfl, hown5⟩ := hres
              have hA5 := HA4.out.call hb5
              have HA5 := hidA hA5
              have hO5 := HO4.out.below hb5
              have HO5 := hidA hO5
              have Heq := hidA (eqO_any gf _ v5 w5 hO5 hown5.fs.arg hgl3 HWB.out)
              obtain ⟨a5, cap5, rfl⟩ := hown5.len
              clear hp hb5 hown5 hA5 hO5
              by_cases h508 : (textOf gf).length < 508
              · have hti : (t.size : Int) < 508 := by omega
                have HP6 := hidA (HP2.out h508)
                have hsz6 : ((⟨#[32, 10]⟩ : ByteArray) ++ t ++ ⟨#[10, 32]⟩).size ≤ 140737488351232 := by
                  rw [ByteArray.size_append, ByteArray.size_append]
                  show 2 + t.size + 2 ≤ _
                  omega
                clear h508 htsz hlen
                go_wp2_with (first | (go_at_call 10; refine (Hn.out _ _).mono ?_; rintro e w' ⟨rfl, rfl⟩) | (go_at_call 11; refine Heq.out.mono ?_; rintro e w6 ⟨rfl, hd6⟩))
                have hA6 := HA5.out.call hd6.low
                have HA6 := hidA hA6
                have HO6 := hidA (HO5.out.below hd6.low)
                refine (parse_any _ w6 hsz6 hA6.env).mono ?_
                rintro e w7 ⟨r, hp, hb7, hres⟩
                obtain rfl := hp.unique HP6.out
                obtain ⟨v7, rfl, hown7⟩ := hres
                have HA7 := hidA (HA6.out.call hb7)
                have Heq7 := hidA (eqO_any gf v7 _ w7 hown7.fs.arg (HO6.out.below hb7) hgl3 HWB.out)
                obtain ⟨a7, cap7, rfl⟩ := hown7.len
                clear hp hb7 hown7 hA6 hd6
                go_wp2_with (first | (go_at_call 10; refine (Hn.out _ _).mono ?_; rintro e w' ⟨rfl, rfl⟩) | (go_at_call 11; refine Heq7.out.mono ?_; rintro e w8 ⟨rfl, hd8⟩))
                have HA8 := hidA (HA7.out.call hd8.low)
                clear hd8
                go_roundw
                case rel => exact ⟨k + 1, by omega, by omega, by go_num, HA8.out⟩
                case measure => simp [intOf]; omega
              · have hti : (508 : Int) ≤ (t.size : Int) := by omega
                clear h508 htsz hlen
                go_wp2_with (first | (go_at_call 10; refine (Hn.out _ _).mono ?_; rintro e w' ⟨rfl, rfl⟩) | (go_at_call 11; refine Heq.out.mono ?_; rintro e w6 ⟨rfl, hd6⟩))
                have HA6 := hidA (HA5.out.call hd6.low)
                clear hd6
                go_roundw
                case rel => exact ⟨k + 1, by omega, by omega, by go_num, HA6.out⟩
                case measure => simp [intOf]; omega
        · have hw := hidA (wakes_any wr hA.env)
          have hlt' : l.length ≤ k ∨ 10 ≤ k := by omega
          have HO := hidA hA.out
          have hsz := hA.lt
          clear hA hlt
          rcases hlt' with h1 | h1
          · have h1i : (l.length : Int) ≤ k := by omega
            go_wp2_with (go_at_call 13; refine hw.out.mono ?_; rintro e w9 ⟨rfl, hb9⟩)
            go_ret
            exact ⟨rfl, HO.out.trans (hb9.mono (by omega))⟩
          · by_cases h2 : l.length ≤ k
            · have h2i : (l.length : Int) ≤ k := by omega
              go_wp2_with (go_at_call 13; refine hw.out.mono ?_; rintro e w9 ⟨rfl, hb9⟩)
              go_ret
              exact ⟨rfl, HO.out.trans (hb9.mono (by omega))⟩
            · obtain rfl : k = 10 := by omega
              have h2i : (10 : Int) < l.length := by omega
              go_wp2_with (go_at_call 13; refine hw.out.mono ?_; rintro e w9 ⟨rfl, hb9⟩)
              go_ret
              exact ⟨rfl, HO.out.trans (hb9.mono (by omega))⟩
end Go.Proofs.YtaaijlkjbmpegaaDoor
