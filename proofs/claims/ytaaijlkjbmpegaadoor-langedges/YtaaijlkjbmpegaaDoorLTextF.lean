/- Count, Check, Text. -/
import Derived.Test.YtaaijlkjbmpegaaDoorLWords
namespace Go.Proofs.YtaaijlkjbmpegaaDoor
open Go.RowKit Go.Shelf
set_option linter.unusedVariables false
set_option maxRecDepth 100000

theorem Tryd.Builder_Extra_156 : Builder.Extra Tryd.prog Tryd.lays156_ren := {
  sizeBuilder := by kernel_rfl
  liesBuilder := by kernel_rfl
  t5 := Tryd.underlying5
  a5 := Tryd.isAgg5
  z5 := Tryd.sizeOf5
  v5 := Tryd.zeroValue5
  infoByte := by kernel_rfl
  cellsByte := by kernel_rfl
  sizeByte := by kernel_rfl
  neB5 := by decide }
/-- Ops that may be. -/
def May (f : Fo) : Prop := okF f 0 = true ∧ tot f ≤ 128
/-- What Count tells. -/
def CntR (f : Fo) (e : Ending) : Prop := (May f ∧ e = .returned (.tuple #[.int .i64 (tot f : Int), .int .i64 0])) ∨ (¬ May f ∧ e = .returned (.tuple #[.int .i64 0, .int .i64 1]))
theorem cnt_any (f : Fo) (v : Value) (w : World) (h : FS QA w v f) (hl : f.len ≤ 3518437208780) (hwf : WfB f) :
    Calls Tryd.prog 18 #[v] w fun e w' => CntR f e ∧ Below w.heap.size w w' := by
  have Hc := hidN (count_sz f.sz f v w 0 0 (Nat.le_refl _) h hl hwf (by omega) (by omega))
  rw [show ((0 : Nat) : Int) = 0 from rfl] at Hc
  obtain ⟨a, cap, rfl⟩ := h.val
  clear h hl hwf
  go_enter Tryd.func18, Tryd.ntmps18
  go_wp2_with (go_at_call 32; refine Hc.out.mono ?_)
  rintro e w1 ⟨hcr, hb⟩
  rcases hcr with ⟨hm, rfl⟩ | ⟨hm, rfl⟩
  · rw [Nat.zero_add] at hm ⊢
    have HM := hidN hm
    clear hm
    go_wp2
    go_ret2
    exact ⟨.inl ⟨HM.out, rfl⟩, hb⟩
  · rw [Nat.zero_add] at hm
    have HM := hidN hm
    clear hm
    go_wp2
    go_ret2
    exact ⟨.inr ⟨HM.out, rfl⟩, hb⟩
/-- What Check tells. -/
def ChkR (f : Fo) (e : Ending) : Prop := (May f ∧ e = .returned (.int .i64 0)) ∨ (¬ May f ∧ e = .returned (.int .i64 1))
theorem chk_any (f : Fo) (v : Value) (w : World) (h : FS QA w v f) (hl : f.len ≤ 3518437208780) (hwf : WfB f) :
    Calls Tryd.prog 19 #[v] w fun e w' => ChkR f e ∧ Below w.heap.size w w' := by
  have Hc := hidN (cnt_any f v w h hl hwf)
  obtain ⟨a, cap, rfl⟩ := h.val
  clear h hl hwf
  go_enter Tryd.func19, Tryd.ntmps19
  go_wp2_with (go_at_call 18; refine Hc.out.mono ?_)
  rintro e w1 ⟨hcr, hb⟩
  rcases hcr with ⟨hm, rfl⟩ | ⟨hm, rfl⟩
  · have HM := hidN hm
    clear hm
    go_wp2
    go_ret
    exact ⟨.inl ⟨HM.out, rfl⟩, hb⟩
  · have HM := hidN hm
    clear hm
    go_wp2
    go_ret
    exact ⟨.inr ⟨HM.out, rfl⟩, hb⟩
theorem join_any (v : Value) (base : Nat) (ws : List (List UInt8)) (w : World) (h : OwnS w base v (ws.map ba)) (hl : ws.length ≤ 1000) (hlen : (Lib.join ws [32]).length ≤ 100000) :
    Calls Tryd.prog 30 #[v, .string ⟨#[32]⟩] w fun e w' => e = .returned (.string (ba (Lib.join ws [32]))) ∧ Below w.heap.size w w' := by
  rcases h.2 with ⟨rfl, h0⟩ | ⟨g, cap, cur, rfl, _, hb, hn, _, _, ht⟩
  · have hw : ws = [] := by simpa using h0
    subst hw
    have hc := Any.strings_Join_none Tryd.lays156 Tryd.Builder_Extra_156 none 0 ⟨#[32]⟩ w
    exact hc.mono fun e w' ⟨he, hw⟩ => ⟨he, hw ▸ Below.refl _ _⟩
  · have hmap : (ws.map ba).map (·.data.toList) = ws := by
      rw [List.map_map]
      conv => rhs; rw [← List.map_id ws]
      exact List.map_congr_left fun l _ => by simp
    have hc := Any.strings_Join Tryd.lays156 Tryd.Builder_Extra_156 g 0 cap (ws.map ba) ⟨#[32]⟩ w (fun j x hx => strsAt_of_block hb ht j x hx) (Array.getElem?_eq_some_iff.1 hb).1 (by simp; omega) (by simpa using hn)
      (by rw [hmap]; show (Lib.join ws [32]).length ≤ _; omega)
    rw [hmap] at hc
    exact hc
/-- What Text tells. -/
def TxtR (f : Fo) (e : Ending) : Prop := (¬ May f ∧ e = .returned (.tuple #[.string ⟨#[]⟩, .int .i64 1])) ∨ ((May f ∧ 512 < (textOf f).length) ∧ e = .returned (.tuple #[.string ⟨#[]⟩, .int .i64 2])) ∨ ((May f ∧ (textOf f).length ≤ 512) ∧ e = .returned (.tuple #[.string (ba (textOf f)), .int .i64 0]))
set_option maxHeartbeats 400000 in
theorem text_any (f : Fo) (v : Value) (w : World) (h : FS QA w v f) (hl : f.len ≤ 3518437208780) (hwf : WfB f) (hwn : WfN f) (hE : Env w) :
    Calls Tryd.prog 17 #[v] w fun e w' => TxtR f e ∧ Below w.heap.size w w' := by
  have Hc := hidN (chk_any f v w h hl hwf)
  have HF := hidN h
  have Hwf := hidN hwf
  have Hwn := hidN hwn
  have HE := hidN hE
  obtain ⟨a, cap, rfl⟩ := h.val
  clear h hwf hwn hE
  go_enter Tryd.func17, Tryd.ntmps17
  go_wp2_with (go_at_call 19; refine Hc.out.mono ?_)
  rintro e w1 ⟨hcr, hb⟩
  rcases hcr with ⟨hm, rfl⟩ | ⟨hm, rfl⟩
  · have HM := hidN hm
    have hwm := words_many f
    have hml := hm.2
    have hlen : (textOf f).length ≤ 63 * tot f := text_len hm.1 Hwn.out
    have hs1 := hb.size
    have Hw := hidN (words_sz w.heap.size HE.out.size f.sz f (.slice a f.len cap) (.slice none 0 0) [] w1 0 (Nat.le_refl _) ((HF.out.toB).belowB hb) hl Hwf.out Hwn.out hm.1 (by simp; omega) (World.ownsRow_nil _ _ _ _) (HE.out.low hb) hs1)
    have HB := hidN hb
    clear hm hb
    go_wp2_with (go_at_call 31; refine Hw.out.mono ?_)
    rintro e w2 ⟨v2, rfl, hown2, hb2⟩
    rw [List.nil_append] at hown2
    have Hj := hidN (join_any v2 w.heap.size (wordsOf f) w2 hown2 (by omega) (by show (textOf f).length ≤ _; omega))
    have hs2 := hb2.size
    have HB2 := hidN (HB.out.trans hb2)
    obtain ⟨a2, cap2, hv2⟩ := OwnS.shape hown2
    rw [List.length_map] at hv2
    subst hv2
    clear hown2 hb2
    go_wp2_with (go_at_call 30; refine Hj.out.mono ?_)
    rintro e w3 ⟨rfl, hb3⟩
    have HB3 := hidN (HB2.out.trans (hb3.mono (by omega)))
    have hjt : Lib.join (wordsOf f) [32] = textOf f := rfl
    rw [hjt]
    have hsz : (ba (textOf f)).size = (textOf f).length := by rw [← L_len, L_ba]
    clear hb3 hjt
    generalize ht : ba (textOf f) = t at hsz ⊢
    have HT := hidN ht
    clear ht
    by_cases h5 : 512 < (textOf f).length
    · have h5i : (512 : Int) < (t.size : Int) := by omega
      have HC : Hid (TxtR f (.returned (.tuple #[.string ⟨#[]⟩, .int .i64 2]))) := .inr (.inl ⟨⟨HM.out, h5⟩, rfl⟩)
      clear hsz h5 hlen
      go_wp2
      go_ret2
      exact ⟨HC.out, HB3.out⟩
    · have h5i : (t.size : Int) ≤ 512 := by omega
      have HC : Hid (TxtR f (.returned (.tuple #[.string t, .int .i64 0]))) := .inr (.inr ⟨⟨HM.out, by omega⟩, by rw [HT.out]⟩)
      clear hsz h5 hlen
      go_wp2
      go_ret2
      exact ⟨HC.out, HB3.out⟩
  · have HM := hidN hm
    clear hm
    go_wp2
    go_ret2
    exact ⟨.inl ⟨HM.out, rfl⟩, hb⟩
end Go.Proofs.YtaaijlkjbmpegaaDoor
