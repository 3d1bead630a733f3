/- Texts laid together: EList, ERun. -/
import Derived.Test.YtclcgakfmcofaaaGreatDoorMW11
import Derived.Test.YtclcgakfmcofaaaGreatDoorMW12
set_option linter.unusedVariables false
set_option maxRecDepth 100000
set_option maxHeartbeats 2000000
namespace Go.Proofs.YtclcgakfmcofaaaGreatDoor
open Go.RowKit
structure EK (f : Fo) (d : Nat) (T : TypeId) (lo : Nat) (x : Rc) (R : Nat) (w : World) (vs vo : Value) (s : St) (h fl m l p : Int) (k : Nat) (wr : World) : Prop where
 mr : ∃ vs' vo' s' h' m', (aK T lo x R wr vs' vo' s' ∧ Fr R w vs vo wr vs' vo') ∧ Ok h' s' ∧ s'.fu ≤ s.fu ∧ ev x f s = ev x (f.drop k) s' ∧ nd (f.drop k) h' fl m' = some (l, p) ∧ fl ≤ h' ∧ h' ≤ m' ∧ m' ≤ 16
theorem list_any (B : Nat) : ∀ (z : Nat) (f : Fo), f.sz ≤ z → ListE B f := by
 intro z
 induction z with
 | zero =>
  intro f hz v w lo x R vs vo s d h fl m l p hf hl hwf hok hnd h0 h1 h2 h3 hM hO hfu hB hx
  obtain rfl : f = .nil := by cases f with
   | nil => rfl
   | cons k n b r => simp [Fo.sz] at hz
  obtain ⟨a, cap, rfl⟩ := hf.val
  have HR : Hid (bC TE lo x R w vs vo (ev x .nil s) (.returned (.int .i64 0)) w) := .inr ⟨s, rfl, rfl, _, _, hM, Fr.refl _ _ _ _⟩
  simp only [Fo.len]
  generalize ev x .nil s = q at HR ⊢
  clear hz hf hl hwf hok hnd hM hO
  go_enter Tryz.func160, Tryz.ntmps160
  go_wp2
  go_loop [10] (fun i => i = .int .i64 0) (fun _ => 0)
  case atStart => exact rfl
  case round =>
   subst hrel
   go_wp2
   go_ret
   exact HR.out
 | succ z ih =>
  intro f hz v w lo x R vs vo s d h fl m l p hf hl hwf hok hnd h0 h1 h2 h3 hM hO hfu hB hx
  rcases hf.shape with ⟨a1, cap, rfl, hfn⟩ | ⟨g, o, cap, rfl, hq, hat⟩
  ·subst hfn
   exact ih .nil (by simp [Fo.sz]) _ w lo x R vs vo s d h fl m l p hf hl hwf hok hnd h0 h1 h2 h3 hM hO hfu hB hx
  obtain ⟨n, hn⟩ : ∃ n, f.len = n := ⟨_, rfl⟩
  have hBw : B ≤ w.heap.size := by have := hM.lw; have := hM.blk.lt; omega
  have hstart := af (EK.mk (f := f) (d := d) (T := TE) (lo := lo) (x := x) (R := R) (w := w) (vs := vs) (vo := vo) (s := s) (h := h) (fl := fl) (m := m) (l := l) (p := p) (k := 0) ⟨vs, vo, s, h, m, ⟨hM, Fr.refl _ _ _ _⟩, hO, Nat.le_refl _, by cases f <;> rfl, by cases f <;> exact hnd, h1, h2, h3⟩)
  rw [hn] at hl ⊢
  have HN : Hid (f.len = n) := hn
  have HI := af ih
  have hgB : g < B := hq
  have Hat := af hat
  have Hwf := af hwf
  have HSZ := af hz
  have HM := af hM
  have HOK := af hok
  obtain ⟨Q, hQ⟩ : ∃ Q, ev x f s = Q := ⟨_, rfl⟩
  rw [hQ]
  have HQ := af hQ
  clear hn ih hat hwf hf hq hz hM hO hnd hok hQ
  go_enter Tryz.func160, Tryz.ntmps160
  go_wp2
  go_loopw [6, 7, 10] (fun _ _ i wr => ∃ k : Nat, k ≤ n ∧ i = .int .i64 k ∧ EK f d TE lo x R w vs vo s h fl m l p k wr) (fun _ _ i _ => n - (intOf i).toNat)
  case atStart => exact ⟨0, by omega, rfl, hstart.out⟩
  case round =>
   obtain ⟨k, hk, rfl, hEK⟩ := hrel
   obtain ⟨vs1, vo1, s1, h', m', ⟨hm1, hf1⟩, hO1, hfu1, hev1, hnd1, hh1, hh2, hh3⟩ := hEK.mr
   clear hEK
   by_cases hlt : k < n
   ·have hbw := (HM.out.below hf1).mono hB
    have hat' : fG (QB B) wr f g o := Hat.out.move (fun b o hq => ⟨hbw.block b hq, hq⟩) (hbw.block g hgB)
    obtain ⟨kk, nn, b, r, sv, e1, e2, e3, c0', c1', c2', hsv⟩ := hat'.at (i := k) (by rw [HN.out]; exact hlt)
    obtain ⟨hb1, hb2⟩ := Hwf.out.at e1
    have hbs := Fo.sz_blk e1
    have hbz : b.sz ≤ z := by have := HSZ.out; omega
    have hLb := HI.out b hbz
    obtain ⟨hal, hbo⟩ := mI HOK.out e1
    rw [e1] at hev1 hnd1
    obtain ⟨n1, n2, m2, n3, n4⟩ := jR hnd1
    have hlv := jQ kk
    have hbd := oy _ _ _ _ _ _ n3 (Int.le_refl _) (by omega) (by omega)
    obtain ⟨a1, cap1, rfl⟩ := hsv.val
    have hmA := hm1.alloc (.cells #[.int .i64 kk, .int .i64 nn, .slice a1 b.len cap1] 230)
    have hfA : Fr R w vs vo (wr.alloc (.cells #[.int .i64 kk, .int .i64 nn, .slice a1 b.len cap1] 230)) vs1 vo1 := hf1.alloc _
    obtain ⟨⟨_, _, _, d3, _, _⟩, y3, _, _⟩ := hmA.blk.cells
    have hgr : g < wr.heap.size := by have := hm1.lw; have := hm1.blk.lt; omega
    have hRr := hm1.blk.lt
    by_cases hz0 : s1.fu = 0
    ·have HE : Hid (bC TE lo x R w vs vo Q (.returned (.int .i64 10)) (wr.alloc (.cells #[.int .i64 kk, .int .i64 nn, .slice a1 b.len cap1] 230))) := .inl ⟨10, by rw [← HQ.out, hev1, ev_no hz0], by decide, rfl, HM.out.below hfA⟩
     rw [hz0] at d3
     clear hm1 hf1 hO1 hev1 hnd1 hat' e1 e2 e3 hsv hmA hfA n1 n2 n3 n4 hbd hLb hbo hal hb2 hbw
     go_wp2
     go_ret
     exact HE.out
    ·obtain ⟨q, hq⟩ : ∃ q, s1.fu = q + 1 := ⟨s1.fu - 1, by omega⟩
     have hst := hm1.fuel q
     have hfB := (hf1.trans hst.2).alloc (.cells #[.int .i64 kk, .int .i64 nn, .slice a1 b.len cap1] 230)
     have hmB := hst.1.alloc (.cells #[.int .i64 kk, .int .i64 nn, .slice a1 b.len cap1] 230)
     have hsvB : FS (QB B) ((wr.setCell ⟨R, 3, none⟩ (.int .i64 (q : Int))).alloc (.cells #[.int .i64 kk, .int .i64 nn, .slice a1 b.len cap1] 230)) (.slice a1 b.len cap1) b := hsv.belowB ((hm1.below (hst.2.alloc _)).mono hB)
     have hdo := do_any B b hLb kk nn (.slice a1 b.len cap1) _ lo x R vs1 vo1 ⟨q, s1.st, s1.out⟩ (d + 1) h' fl m' m2 hsvB hb1 hb2 hal hbo h0 n1 n2 n3 hh2 hh3 hmB ⟨hO1.len, hO1.out⟩ (by show q ≤ 2000; omega) hB hx
     have HDO := af hdo
     have HFB := af hfB
     have HSB := af hmB
     have HEV := af hev1
     have HD := af e2
     have HO1 := af hO1
     have HN1 := af n1
     have HN4 := af n4
     have HN3 := af n3
     have HB5 := af (And.intro hal hbo)
     have hd3 : (wr.alloc (.cells #[.int .i64 kk, .int .i64 nn, .slice a1 b.len cap1] 230)).cell? ⟨R, 3, none⟩ = some (.int .i64 ((q : Int) + 1)) := by rw [d3, hq]; rfl
     clear hm1 hf1 hO1 hev1 hnd1 hat' e1 e2 e3 hsv hmA hfA n1 n3 n4 hLb hbo hal hb2 hbw hst hmB hfB hsvB hdo d3
     go_wp2_with fail
     refine HDO.out.mono ?_
     rintro e w3 hr3
     rcases hr3 with ⟨c, hc, hc0, rfl, hb3⟩ | ⟨s3, hc, rfl, vs3, vo3, hm3, hf3⟩
     ·have HE : Hid (bC TE lo x R w vs vo Q (.returned (.int .i64 c)) w3) := .inl ⟨c, by rw [← HQ.out, HEV.out, ev_err (by omega) (by rw [hq]; exact hc)], hc0, rfl, (HM.out.below HFB.out).trans hb3⟩
      have hce : (c == 0) = false := beq_eq_false_iff_ne.2 hc0
      clear hc hc0 hb3
      go_wp2
      go_ret
      exact HE.out
     ·have hal := fH HB5.out.1
      have hk3 := kG (s := ⟨q, s1.st, s1.out⟩) hal.1 hal.2 ⟨HO1.out.len, HO1.out.out⟩ (by have := HN1.out; omega) (fun t t' ht e => by
       cases hb : bm kk with
       | true => have := fI x b _ _ _ _ _ _ _ _ (HB5.out.2 hb) HN3.out (by have := HN1.out; omega) ht e; exact ⟨this.1, by omega⟩
       | false =>
        rw [eM HB5.out.1 hb, ev] at e
        injection e with e
        subst e
        exact ⟨ht, Nat.le_refl _⟩) hc
      have hk4 : s3.fu ≤ q := hk3.2
      have HL : Hid (EK f d TE lo x R w vs vo s h fl m l p (k + 1) w3) := ⟨⟨vs3, vo3, s3, _, m2, ⟨hm3, HFB.out.trans hf3⟩, hk3.1, by omega, by rw [HEV.out, ev_ok (s' := s3) (by omega) (by rw [hq]; exact hc), HD.out], by rw [HD.out]; exact HN4.out, by have := HN1.out; omega, by omega, by omega⟩⟩
      clear hc hm3 hf3 hk3 hal
      go_wp2
      go_roundw
      case rel => exact ⟨k + 1, by omega, by go_num, HL.out⟩
      case measure => simp [intOf]; omega
   ·have hlt' : n ≤ k := by omega
    have HE : Hid (bC TE lo x R w vs vo Q (.returned (.int .i64 0)) wr) := .inr ⟨s1, by rw [← HQ.out, hev1, Fo.drop_all _ _ (by rw [HN.out]; exact hlt')]; rfl, rfl, _, _, hm1, hf1⟩
    clear hm1 hf1 hO1 hev1 hnd1
    go_wp2
    go_ret
    exact HE.out
def df (f : Fo) (x : Rc) (fu : Int) : Int × Int × List Rc :=
 if cE f ≠ 0 then (cE f, 0, []) else if ¬ (x.1.2.size ≤ 64 ∧ 0 ≤ fu ∧ fu ≤ 2000) then (1, 0, []) else
 match ev x f ⟨fu.toNat, [], []⟩ with
 | .err c => (c, 0, [])
 | .ok s => (0, (s.fu : Int), s.out)
theorem runR_1 {f : Fo} {x : Rc} {fu : Int} (h : cE f ≠ 0) : df f x fu = (cE f, 0, []) := by unfold df; rw [if_pos h]
theorem kI {f : Fo} {x : Rc} {fu : Int} (h : cE f = 0) (h2 : ¬ (x.1.2.size ≤ 64 ∧ 0 ≤ fu ∧ fu ≤ 2000)) : df f x fu = (1, 0, []) := by unfold df; rw [if_neg (by simp [h]), if_pos h2]
theorem runR_3 {f : Fo} {x : Rc} {q : Nat} {c : Int} (h : cE f = 0) (h2 : x.1.2.size ≤ 64) (h3 : q ≤ 2000) (he : ev x f ⟨q, [], []⟩ = .err c) : df f x (q : Int) = (c, 0, []) := by
 unfold df; rw [if_neg (by simp [h]), if_neg (by simp; omega), Int.toNat_natCast, he]
theorem runR_4 {f : Fo} {x : Rc} {q : Nat} {s : St} (h : cE f = 0) (h2 : x.1.2.size ≤ 64) (h3 : q ≤ 2000) (he : ev x f ⟨q, [], []⟩ = .ok s) : df f x (q : Int) = (0, (s.fu : Int), s.out) := by
 unfold df; rw [if_neg (by simp [h]), if_neg (by simp; omega), Int.toNat_natCast, he]
def kJ (w : World) (t : Int × Int × List Rc) (e : Ending) (w' : World) : Prop := ∃ v, e = .returned (.tuple #[v, .int .i64 t.2.1, .int .i64 t.1]) ∧ bq w' w.heap.size v t.2.2 ∧ Below w.heap.size w w'
theorem oD {w : World} {base base' n size : Nat} {e : TypeId} {v : Value} {xs : List Value} (h : w.ownsRow base e size v n xs) (hb : base' ≤ base) : w.ownsRow base' e size v n xs := by
 refine ⟨h.1, ?_⟩
 rcases h.2 with h1 | ⟨g, cap, cur, h1, h2, h3⟩
 ·exact .inl h1
 ·exact .inr ⟨g, cap, cur, h1, Nat.le_trans hb h2, h3⟩
theorem cE_zero {f : Fo} (h : cE f = 0) : May f ∧ ∃ p, ll f = some (0, p) := by
 have hc := gO f
 unfold cE at h
 rcases hc with ⟨h1, h2, h3, h4, h5, h6⟩ | ⟨h1, _⟩ | ⟨h1, _⟩
 ·rw [h1] at h
  split at h
  ·cases h
  ·rename_i hn
   have : nL f = 0 := by simp at hn; omega
   rw [this] at h6
   exact ⟨h5, _, h6⟩
 ·rw [h1] at h; simp at h
 ·rw [h1] at h; simp at h
theorem cE_vals (f : Fo) : cE f = 0 ∨ cE f = 1 ∨ cE f = 9 := by
 unfold cE
 rcases gO f with ⟨h1, _⟩ | ⟨h1, _⟩ | ⟨h1, _⟩ <;> rw [h1] <;> split <;> simp
theorem run_any (f : Fo) (v : Value) (w : World) (x : Rc) (fu : Int) (h : FS QA w v f) (hl : f.len ≤ 3518437208780) (hwf : jo f) (hxs : x.1.2.size ≤ 140737488351232) :
  Calls Tryz.prog 129 #[v, .agg #[.int .i64 x.1.1, .string x.1.2, .int .i64 x.2], .int .i64 fu] w fun e w' => kJ w (df f x fu) e w' := by
 have hB0 := (Below.refl w.heap.size w).alloc (Nat.le_refl _) (.cells #[.int .i64 x.1.1, .string x.1.2, .int .i64 x.2] 155)
 have Hc := af (mJ f v _ (h.below hB0) hl hwf)
 have Hf := af h
 have Hwf := af hwf
 have HB0 := af hB0
 obtain ⟨a, cap, rfl⟩ := h.val
 obtain ⟨⟨xa, xb⟩, xv⟩ := x
 simp only at hxs
 obtain ⟨T, hT⟩ : ∃ T, df f ((xa, xb), xv) fu = T := ⟨_, rfl⟩
 rw [hT]
 have HT := af hT
 obtain ⟨C, hC⟩ : ∃ C, cE f = C := ⟨_, rfl⟩
 rw [hC] at Hc
 have HC := af hC
 clear h hwf hB0 hT hC
 go_enter Tryz.func129, Tryz.ntmps129
 go_wp2_with fail
 refine Hc.out.mono ?_
 rintro e w1 ⟨rfl, hb1⟩
 have hw1 : Below w.heap.size w w1 := HB0.out.trans (hb1.mono (by simp))
 have HW1 := af hw1
 obtain ⟨x0, x1, x2⟩ := cell3 (box_kept hb1)
 have hws : w.heap.size < w1.heap.size := by have := hb1.size; simp at this; omega
 clear Hc hb1 hw1
 by_cases hc0 : C = 0
 ·subst hc0
  by_cases h1 : 64 < xb.size
  ·have HE : Hid (kJ w T (.returned (.tuple #[.slice none 0 0, .int .i64 0, .int .i64 1])) w1) := ⟨_, by rw [← HT.out, kI HC.out (by simp; omega)], by rw [← HT.out, kI HC.out (by simp; omega)]; exact World.ownsRow_nil _ _ _ _, HW1.out⟩
   go_wp2
   go_ret3
   exact HE.out
  have h1' : xb.size ≤ 64 := by omega
  by_cases h2 : fu < 0
  ·have HE : Hid (kJ w T (.returned (.tuple #[.slice none 0 0, .int .i64 0, .int .i64 1])) w1) := ⟨_, by rw [← HT.out, kI HC.out (by simp; omega)], by rw [← HT.out, kI HC.out (by simp; omega)]; exact World.ownsRow_nil _ _ _ _, HW1.out⟩
   clear h1
   go_wp2
   go_ret3
   exact HE.out
  have h2' : 0 ≤ fu := by omega
  by_cases h3 : 2000 < fu
  ·have HE : Hid (kJ w T (.returned (.tuple #[.slice none 0 0, .int .i64 0, .int .i64 1])) w1) := ⟨_, by rw [← HT.out, kI HC.out (by simp; omega)], by rw [← HT.out, kI HC.out (by simp; omega)]; exact World.ownsRow_nil _ _ _ _, HW1.out⟩
   clear h1 h2
   go_wp2
   go_ret3
   exact HE.out
  have h3' : fu ≤ 2000 := by omega
  obtain ⟨q, rfl⟩ : ∃ q : Nat, fu = q := ⟨fu.toNat, by omega⟩
  obtain ⟨hmay, p, hneed⟩ := cE_zero HC.out
  have hmB : aK TE w1.heap.size ((xa, xb), xv) w1.heap.size (w1.alloc (.cells #[.int .i64 xa, .string xb, .int .i64 xv, .int .i64 (q : Int), .slice none 0 0, .slice none 0 0] TE)) (.slice none 0 0) (.slice none 0 0) ⟨q, [], []⟩ := ⟨kt_E, Nat.le_refl _, du.new TE w1 ((xa, xb), xv) q _ _, World.ownsRow_nil _ _ _ _, World.ownsRow_nil _ _ _ _⟩
  have hfB : FS (QB w1.heap.size) (w1.alloc (.cells #[.int .i64 xa, .string xb, .int .i64 xv, .int .i64 (q : Int), .slice none 0 0, .slice none 0 0] TE)) (.slice a f.len cap) f := ((Hf.out.below HW1.out).toB).belowB ((Below.refl _ _).alloc (Nat.le_refl _) _)
  have hL := list_any w1.heap.size f.sz f (Nat.le_refl _) _ _ w1.heap.size ((xa, xb), xv) w1.heap.size _ _ ⟨q, [], []⟩ 0 0 0 0 0 p hfB hl Hwf.out hmay.1 hneed (by omega) (by omega) (by omega) (by omega) hmB ⟨rfl, by simp⟩ (by show q ≤ 2000; omega) (Nat.le_refl _) h1'
  have HL := af hL
  have HMB := af hmB
  clear hL hmB hfB hmay hneed h1 h2 h3
  go_wp2_with fail
  refine HL.out.mono ?_
  rintro e w2 hr
  have hbA : Below w.heap.size w (w1.alloc (.cells #[.int .i64 xa, .string xb, .int .i64 xv, .int .i64 (q : Int), .slice none 0 0, .slice none 0 0] TE)) := HW1.out.alloc (by omega) _
  rcases hr with ⟨c, hq, hc0, rfl, hb3⟩ | ⟨s3, hq, rfl, vs3, vo3, hm3, hf3⟩
  ·have hR := runR_3 HC.out h1' (by omega) hq
   rw [HT.out] at hR
   have HE : Hid (kJ w T (.returned (.tuple #[.slice none 0 0, .int .i64 0, .int .i64 c])) w2) := ⟨_, by rw [hR], by rw [hR]; exact World.ownsRow_nil _ _ _ _, hbA.trans (hb3.mono (by omega))⟩
   have hce : (c == 0) = false := beq_eq_false_iff_ne.2 hc0
   clear hq hc0 hb3 hR hbA x0 x1 x2
   go_wp2
   go_ret3
   exact HE.out
  ·have hR := runR_4 HC.out h1' (by omega) hq
   rw [HT.out] at hR
   have hb3 := HMB.out.below hf3
   obtain ⟨⟨_, _, _, d3, _, d5⟩, _⟩ := hm3.blk.cells
   have HE : Hid (kJ w T (.returned (.tuple #[vo3, .int .i64 (s3.fu : Int), .int .i64 0])) (w2.drewN 1)) := ⟨vo3, by rw [hR], by rw [hR]; exact oD (w := w2.drewN 1) (hm3.drew 1).out (by omega), below_drewN (hbA.trans (hb3.mono (by omega))) 1⟩
   obtain ⟨ao, capo, hvo⟩ := bz hm3.out
   subst hvo
   clear hq hb3 hR hbA hm3 hf3 x0 x1 x2
   go_wp2
   go_region
   go_wp2
   go_ret3
   exact HE.out
 ·have hce : (C == 0) = false := beq_eq_false_iff_ne.2 hc0
  have HE : Hid (kJ w T (.returned (.tuple #[.slice none 0 0, .int .i64 0, .int .i64 C])) w1) := by
   have hR := runR_1 (f := f) (x := ((xa, xb), xv)) (fu := fu) (by rw [HC.out]; exact hc0)
   rw [HT.out, HC.out] at hR
   exact ⟨_, by rw [hR], by rw [hR]; exact World.ownsRow_nil _ _ _ _, HW1.out⟩
  clear hc0 x0 x1 x2
  go_wp2
  go_ret3
  exact HE.out
end Go.Proofs.YtclcgakfmcofaaaGreatDoor
