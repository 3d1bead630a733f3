/- LangParses: the walk. -/
import Derived.Test.YtaaijlkjbmpegaaDoorLLaw
import Derived.Test.YtaaijlkjbmpegaaDoorLRParse
import Derived.Test.YtaaijlkjbmpegaaDoorLWipeO
namespace Go.Proofs.YtaaijlkjbmpegaaDoor
open Go.RowKit Go.Shelf
set_option linter.unusedVariables false
set_option maxRecDepth 100000

theorem len_sz (f : Fo) : f.len ≤ f.sz := by
  induction f with
  | nil => simp [Fo.len, Fo.sz]
  | cons k n b r _ ih => simp only [Fo.len, Fo.sz]; omega
theorem sz_tot (f : Fo) : ∀ d, okF f d = true → f.sz ≤ tot f := by
  induction f with
  | nil => intro d _; simp [Fo.sz]
  | cons k n b r ihb ihr =>
    intro d h
    simp only [okF, Bool.and_eq_true, decide_eq_true_eq] at h
    obtain ⟨⟨⟨hd, ha⟩, hB⟩, hr⟩ := h
    have h1 := ihr d hr
    simp only [Fo.sz, tot]
    cases hb : hasB k with
    | false => rw [hasB_alone ha hb]; simp [Fo.sz]; omega
    | true =>
      rw [hb] at hB
      simp at hB
      have h2 := ihb (d + 1) hB
      simp
      omega
/-- What a program's ops are can be written over. -/
theorem sh_prog {lo : Nat} {w : World} {v : Value} {f : Fo} (h : FS (QO lo) w v f) (hm : May f) : Sh lo w 128 v := by
  have h1 := sz_tot f 0 hm.1
  have h2 := hm.2
  exact sh_fs 128 f v (by omega) h (fun g hg => by have := len_sz g; omega)

set_option maxHeartbeats 1600000 in
theorem lawlp (vs vl : Value) (l : List ByteArray) (f : Fo) (w : World) (hS : SS w vs l ∧ List.length l ≤ 8796093021952 ∧ WfS l) (hF : FS QA w vl f ∧ f.len ≤ 3518437208780 ∧ WfB f ∧ WfN f) (hE : Env w) :
    Calls Tryd.prog 3 #[.agg #[vs, vl]] w fun e w' => e = .returned (.bool true) ∧ Below w.heap.size w w' := by
  have hA0 := AskRel.start hS.1 hF.1 hE
  have HA0 := hidA hA0
  have Hh := hidA (heavy_any vs vl l f _ ⟨hA0.ss, hS.2⟩ ⟨hA0.fs, hF.2⟩)
  have Hn := hidA num_any
  have hl := hS.2.1
  have HWS := hidA hS.2.2
  obtain ⟨a, cap, rfl, _⟩ := hS.1
  obtain ⟨a', cap', rfl⟩ := hF.1.val
  clear hS hF hE hA0
  go_enter Tryd.func3, Tryd.ntmps3
  go_wp2_with (go_at_call 7; refine Hh.out.mono ?_)
  rintro e w1 ⟨⟨r, rfl⟩, hb1⟩
  have hA1 := HA0.out.call hb1
  cases r with
  | true =>
    go_wp2
    go_ret
    exact ⟨rfl, hA1.out⟩
  | false =>
    have HA1 := hidA hA1
    clear hA1 hb1
    go_wp2
    go_loopw [3] (fun i wr => ∃ k : Nat, k ≤ l.length ∧ k ≤ 10 ∧ i = .int .i64 k ∧ AskRel (.slice a l.length cap) (.slice a' f.len cap') l f w wr) (fun i _ => 10 - (intOf i).toNat)
    case atStart => exact ⟨0, by omega, by omega, rfl, HA1.out⟩
    case round =>
      obtain ⟨k, hk, hk10, rfl, hA⟩ := hrel
      obtain ⟨c0, c1⟩ := hA.cells
      have HA := hidA hA
      by_cases hlt : k < l.length ∧ k < 10
      · obtain ⟨hlt, hlt10⟩ := hlt
        obtain ⟨y, hy⟩ := getSome hlt
        obtain ⟨g, o, hae, hgl, hat⟩ : ∃ g o, a = some ⟨g, o, none⟩ ∧ g < wr.heap.size ∧ StrsAt wr g o l := by
          obtain ⟨a0, cap0, e0, h0⟩ := hA.ss
          injection e0 with e0 _ _
          subst e0
          rcases h0 with h0 | ⟨g, o, h1, h2, h3⟩
          · subst h0; simp at hlt
          · exact ⟨g, o, h1, h2, h3⟩
        subst hae
        have cy := hat k y hy
        have HCY := hidA cy
        have hys := HWS.out y (List.mem_of_getElem? hy)
        have Hp := hidA (parse_any y wr hys hA.env)
        have hk0 : (0 : Int) ≤ k := by omega
        have hki : (k : Int) < l.length := by omega
        have hk1 : (k : Int) < 10 := by omega
        have hwr0 := HA.out.lt
        clear hA hat hy
        go_wp2_with (go_at_call 8; refine Hp.out.mono ?_)
        rintro e w3 ⟨r, hp, hb3, hres⟩
        have hA3 := HA.out.call hb3
        have HA3 := hidA hA3
        have HB3 := hidA hb3
        have cy3 : w3.cell? ⟨g, o + k, none⟩ = some (.string y) := (hb3.cell (p := ⟨g, o + k, none⟩) hgl).trans HCY.out
        have hs3 := hb3.size
        have Hq := hidA (rparse_any y w3 hys (by omega))
        have HP := hidA hp
        clear hb3 c0 c1 cy hp
        obtain ⟨c0, c1⟩ := hA3.cells
        clear hA3
        cases r with
        | err c =>
          obtain ⟨rfl, hc0⟩ := hres
          go_wp2_with (go_at_call 9; refine Hq.out.mono ?_)
          rintro e w4 ⟨r, hp4, hb4, hres⟩
          obtain rfl := hp4.unique HP.out
          obtain ⟨rfl, _⟩ := hres
          have HB4 := hidA (HB3.out.trans (hb4.mono hs3))
          have hs4 := hb4.size
          clear hb4 hp4 c0 c1 cy3
          have Heq := hidA (fun W => eqO_any .nil (.slice none 0 0) (.slice none 0 0) W (FS.nil _) (FS.nil _) (by simp [Fo.len]) trivial)
          have hcc : (c != c) = false := by simp
          go_wp2_with (first | (go_at_call 10; refine (Hn.out _ _).mono ?_; rintro e w' ⟨rfl, rfl⟩) | (go_at_call 11; refine (Heq.out _).mono ?_))
          rintro e w5 ⟨rfl, hd5⟩
          have HB5 := hidA (HB4.out.trans (hd5.below wr.heap.size))
          have Hw := hidA (wipeO_any wr.heap.size 128 (.slice none 0 0) w5 (Sh.nil _ _ _))
          clear hd5
          go_wp2_with (go_at_call 12; refine Hw.out.mono ?_)
          rintro e w6 ⟨rfl, hw6⟩
          have HB6 := hidA (HB5.out.trans hw6.1)
          clear hw6
          go_wp2
          go_roundw
          case rel => exact ⟨k + 1, by omega, by omega, by go_num, HA.out.call HB6.out⟩
          case measure => simp [intOf]; omega
        | ok gf ws m =>
          obtain ⟨v3, rfl, hown3⟩ := hres
          obtain ⟨hmay, hwn, hgl3, hwb⟩ := prog_ok HP.out
          have HO3 := hidA hown3.fs
          obtain ⟨a3, cap3, rfl⟩ := hown3.len
          have HM := hidA hmay
          have HWB := hidA hwb
          clear hown3 hmay hwn hwb
          go_wp2_with (go_at_call 9; refine Hq.out.mono ?_)
          rintro e w4 ⟨r, hp4, hb4, hres⟩
          obtain rfl := hp4.unique HP.out
          obtain ⟨v4, rfl, hown4⟩ := hres
          have HB4 := hidA (HB3.out.trans (hb4.mono hs3))
          have hs4 := hb4.size
          have HO4 := hidA (HO3.out.keep (w' := w4) (fun j hj hlt => hb4.block j hlt))
          have HQ4 := hidA hown4.fs.arg
          obtain ⟨a4, cap4, rfl⟩ := hown4.len
          clear hb4 hp4 c0 c1 cy3 hown4
          have Heq := hidA (eqO_any gf _ _ w4 HO4.out.arg HQ4.out hgl3 HWB.out)
          go_wp2_with (first | (go_at_call 10; refine (Hn.out _ _).mono ?_; rintro e w' ⟨rfl, rfl⟩) | (go_at_call 11; refine Heq.out.mono ?_))
          rintro e w5 ⟨rfl, hd5⟩
          have HB5 := hidA (HB4.out.trans (hd5.below wr.heap.size))
          have hO5 := HO4.out.keep (w' := w5) (fun j hj hlt => hd5.low.block j hlt)
          have Hw := hidA (wipeO_any wr.heap.size 128 _ w5 (sh_prog hO5 HM.out))
          clear hd5 hO5
          go_wp2_with (go_at_call 12; refine Hw.out.mono ?_)
          rintro e w6 ⟨rfl, hw6⟩
          have HB6 := hidA (HB5.out.trans hw6.1)
          clear hw6
          go_wp2
          go_roundw
          case rel => exact ⟨k + 1, by omega, by omega, by go_num, HA.out.call HB6.out⟩
          case measure => simp [intOf]; omega
      · have hsz8 := HA.out.lt
        have Hw := hidA (wakes_any wr hA.env)
        clear hA
        have hway : ((l.length : Int) ≤ (k : Int)) ∨ ((k : Int) < (l.length : Int) ∧ (10 : Int) ≤ (k : Int)) := by omega
        clear hlt
        rcases hway with h1 | ⟨h1, h2⟩
        all_goals
          go_wp2_with (go_at_call 13; refine Hw.out.mono ?_)
          rintro e w9 ⟨rfl, hb9⟩
          go_wp2
          go_ret
          exact ⟨rfl, HA.out.out.trans (hb9.mono (by omega))⟩
end Go.Proofs.YtaaijlkjbmpegaaDoor
