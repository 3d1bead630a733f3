/- The page's own text of ops. -/
import Derived.Test.YtaaijlkjbmpegaaDoorLRDec
import Derived.Test.YtaaijlkjbmpegaaDoorLRCount
import Derived.Test.YtaaijlkjbmpegaaDoorLWords
import Derived.Deep.RegionWith
import Derived.Deep.CutBlock
import Derived.Deep.DeepCutAuto
import Derived.Deep.QuietTactic
import Derived.BigQuiet
namespace Go.Proofs.YtaaijlkjbmpegaaDoor
open Go.RowKit Go.Shelf
set_option linter.unusedVariables false
set_option maxRecDepth 100000

theorem txt_false_app (f g : Fo) : txt false (f.app g) = txt false f ++ txt false g := by
  induction f with
  | nil => rfl
  | cons k n b r _ ih => simp only [Fo.app, txt, ih]; simp
theorem txt_app (f g : Fo) (h : 0 < f.len) : txt true (f.app g) = txt true f ++ txt false g := by
  cases f with
  | nil => simp [Fo.len] at h
  | cons k n b r => simp only [Fo.app, txt, txt_false_app]; simp
/-- What one op adds, behind a blank or not. -/
def piece (k n : Int) (b : Fo) : List UInt8 := wordOf k n ++ (if hasB k then [32, 91, 32] ++ ((if txt true b = [] then [] else txt true b ++ [32]) ++ [93]) else [])
theorem txt_one (k n : Int) (b : Fo) : txt true (.cons k n b .nil) = piece k n b ∧ txt false (.cons k n b .nil) = 32 :: piece k n b := by
  constructor <;> simp [txt, piece]
theorem okF_take (i : Nat) (f : Fo) (d : Nat) (h : okF f d = true) : okF (f.take i) d = true := by
  rw [okF_all] at h ⊢
  have e := Fo.take_drop i f
  rw [← e, allO_app] at h
  simp at h ⊢
  exact ⟨h.1, h.2.1⟩
theorem WfN_take : ∀ (i : Nat) (f : Fo), WfN f → WfN (f.take i)
  | 0, f, _ => by cases f <;> trivial
  | i + 1, .nil, _ => trivial
  | i + 1, .cons k n b r, h => ⟨h.1, h.2.1, h.2.2.1, WfN_take i r h.2.2.2⟩
theorem tot_app (f g : Fo) : tot (f.app g) = tot f + tot g := by
  rw [tot_bt, tot_bt, tot_bt, Fo.len_app, bt_app]; omega
theorem tot_take (i : Nat) (f : Fo) : tot (f.take i) ≤ tot f := by
  have e := Fo.take_drop i f
  rw [show tot f = tot ((f.take i).app (f.drop i)) by rw [e], tot_app]
  omega
theorem tot_at {i : Nat} {f b r : Fo} {k n : Int} (h : f.drop i = .cons k n b r) (hk : hasB k = true) : tot b ≤ tot f := by
  have e := Fo.take_drop i f
  rw [h] at e
  rw [show tot f = tot ((f.take i).app (.cons k n b r)) by rw [e], tot_app]
  simp only [tot, hk, if_true]
  omega
theorem txt_len {f : Fo} {d : Nat} (h : okF f d = true) (hw : WfN f) : (txt true f).length ≤ 63 * tot f := by
  rw [(txt_jt f d h).2]
  exact text_len h hw
theorem keepT {w W w' : World} {b o : Nat} {v : Value} (h : W.cell? ⟨b, o, none⟩ = some v ∧ Below w.heap.size w W) (hb : Below W.heap.size W w') (hlt : b < w.heap.size) : w'.cell? ⟨b, o, none⟩ = some v ∧ Below w.heap.size w w' :=
  ⟨(hb.cell (p := ⟨b, o, none⟩) (Nat.lt_of_lt_of_le hlt h.2.size)).trans h.1, h.2.trans (hb.mono h.2.size)⟩

set_option maxHeartbeats 3200000 in
theorem rtext_sz : ∀ (s : Nat) (f : Fo) (v : Value) (w : World) (d : Nat), f.sz ≤ s → FS QA w v f → f.len ≤ 3518437208780 → WfB f → WfN f → okF f d = true → tot f ≤ 128 →
    Calls Tryd.prog 16 #[v] w fun e w' => e = .returned (.string (ba (txt true f))) ∧ Below w.heap.size w w' := by
  intro s
  induction s with
  | zero =>
    intro f v w d hs h hl hwf hwn hok ht
    obtain rfl : f = .nil := by cases f with
      | nil => rfl
      | cons k n b r => simp [Fo.sz] at hs
    obtain ⟨a1, cap, rfl⟩ := h.val
    simp only [Fo.len]
    clear hs hl hwf h hwn hok ht
    go_enter Tryd.func16, Tryd.ntmps16
    go_wp2
    go_loop [3, 4] (fun x i => x = .string ⟨#[]⟩ ∧ i = .int .i64 0) (fun _ _ => 0)
    case atStart => exact ⟨rfl, rfl⟩
    case round =>
      obtain ⟨rfl, rfl⟩ := hrel
      go_wp2
      go_ret
      exact ⟨rfl, Below.refl _ _⟩
  | succ s ih =>
    intro f v w d hs h hl hwf hwn hok ht
    rcases h.shape with ⟨a1, cap, rfl, hf⟩ | ⟨g, o, cap, rfl, hq, hat⟩
    · subst hf
      exact ih .nil _ w d (by simp [Fo.sz]) h hl hwf hwn hok ht
    obtain ⟨n, hn⟩ : ∃ n, f.len = n := ⟨_, rfl⟩
    rw [hn] at hl ⊢
    have HN : Hid (f.len = n) := hn
    have HI := hidN ih
    have hgw : g < w.heap.size := hq
    have Hat := hidN hat
    have Hwf := hidN hwf
    have Hwn := hidN hwn
    have Hok := hidN hok
    have Ht := hidN ht
    have H0 : Hid (txt true (f.take 0) = []) := by unfold Hid; cases f <;> rfl
    clear hn ih h hat hwf hwn hok ht
    go_enter Tryd.func16, Tryd.ntmps16
    go_wp2
    go_loopw [3, 4] (fun x i wr => ∃ (k : Nat) (S : List UInt8), k ≤ n ∧ i = .int .i64 k ∧ x = .string (ba S) ∧ Hid (txt true (f.take k) = S) ∧ Below w.heap.size w wr) (fun _ i _ => n - (intOf i).toNat)
    case atStart => exact ⟨0, [], by omega, rfl, rfl, H0, Below.refl _ _⟩
    case round =>
      obtain ⟨k, S, hk, rfl, rfl, HS, hbel⟩ := hrel
      have hsz := hbel.size
      by_cases hlt : k < n
      · have hat' : FoAt QA wr f g o := Hat.out.move (fun b o hq => ⟨hbel.block b hq, Nat.lt_of_lt_of_le hq hsz⟩) (hbel.block g hgw)
        obtain ⟨kk, nn, b, r, sv, e1, e2, e3, c0, c1, c2, hsv⟩ := hat'.at (i := k) (by rw [HN.out]; exact hlt)
        obtain ⟨hb1, hb2⟩ := Hwf.out.at e1
        obtain ⟨_, hnn, hb3⟩ := Hwn.out.at e1
        obtain ⟨hal, hob⟩ := okF_at Hok.out e1
        have hbs := Fo.sz_blk e1
        have HTB := hidN (fun hk => tot_at e1 hk)
        have hSl : S.length ≤ 10000 := by
          have h1 := txt_len (okF_take k f d Hok.out) (WfN_take k f Hwn.out)
          have h2 := tot_take k f
          have h3 := Ht.out
          rw [HS.out] at h1
          omega
        have htl : (f.take k).len = k := Fo.take_len k f (by rw [HN.out]; omega)
        obtain ⟨pre, hpre1, hpre2⟩ : ∃ pre : List UInt8, (k = 0 ∧ pre = S ∨ 0 < k ∧ pre = S ++ [32]) ∧ txt true (f.take (k + 1)) = pre ++ piece kk nn b := by
          by_cases h0 : k = 0
          · refine ⟨S, .inl ⟨h0, rfl⟩, ?_⟩
            subst h0
            rw [e3, ← HS.out, H0.out, Fo.len_nil htl]
            simpa [Fo.app] using (txt_one kk nn b).1
          · refine ⟨S ++ [32], .inr ⟨by omega, rfl⟩, ?_⟩
            rw [e3, txt_app _ _ (by omega), HS.out, (txt_one kk nn b).2]
            simp
        have hplen : pre.length ≤ 10001 := by
          rcases hpre1 with ⟨_, h⟩ | ⟨_, h⟩
          · rw [h]; omega
          · rw [h, List.length_append, List.length_singleton]; omega
        have HPre := hidN hpre2
        have hwl := word_len hal hnn.1 hnn.2
        have hal' := hal
        unfold alone at hal'
        simp at hal'
        obtain ⟨⟨⟨hka, hkb⟩, _⟩, _⟩ := hal'
        have Hs : Hid (FS QA wr sv b) := hsv
        have Hob := hidN hob
        have HAL := hidN hal
        obtain ⟨a1, cap1, rfl⟩ := hsv.val
        have hgr : g < wr.heap.size := by omega
        have hk0 : (0 : Int) ≤ k := by omega
        have hki : (k : Int) < n := by omega
        clear e1 e2 e3 hat' hsv hob hal hpre2
        have hpiece : Hid (piece kk nn b = wordOf kk nn ++ (if hasB kk then [32, 91, 32] ++ ((if txt true b = [] then [] else txt true b ++ [32]) ++ [93]) else [])) := rfl
        rcases hpre1 with ⟨hkz, hps⟩ | ⟨hkp, hps⟩
        · have hdk : decide ((0 : Int) < (k : Int)) = false := decide_eq_false (by omega)
          have hdk2 : decide (0 < k) = false := decide_eq_false (by omega)
          subst hps
          clear hkz
          by_cases hk1 : kk = 1
          · subst hk1
            have hw1 : wordOf 1 nn = Lib.itoa nn := by unfold wordOf; rw [if_pos rfl]
            rw [hw1] at hwl
            have hadd1 := add_ba pre (Lib.itoa nn) (by omega)
            have HF : Hid (txt true (f.take (k + 1)) = pre ++ Lib.itoa nn) := by
              unfold Hid
              rw [HPre.out, hpiece.out, hw1]
              simp [hasB]
            have Hd := hidN (fun W => decimal_any nn W hnn.1 hnn.2)
            generalize hx : pre ++ Lib.itoa nn = S1 at hadd1 HF
            clear hw1 hx
            go_wp2_with (go_at_call 28; refine (Hd.out _).mono ?_; rintro e w1 ⟨rfl, hbx⟩)
            have HB := hidN (hbel.trans (hbx.mono hsz))
            clear hbx
            go_roundw
            case rel => exact ⟨k + 1, S1, by omega, by go_num, rfl, HF, HB.out⟩
            case measure => simp [intOf]; omega
          · obtain ⟨j, hj⟩ : ∃ j : Nat, kk = (j : Int) + 2 := ⟨(kk - 2).toNat, by omega⟩
            have hj29 : j < 29 := by omega
            have hw1 : wordOf kk nn = tab.getD (j + 2) [] := by unfold wordOf; rw [if_neg hk1, hj]; congr 1
            rw [hw1] at hwl
            have e1 : (kk == 1) = false := beq_eq_false_iff_ne.2 hk1
            have hadd1 := add_ba pre (tab.getD (j + 2) []) (by omega)
            have hw0 : ∀ W, Calls Tryd.prog 29 #[] W fun e w' => e = .returned (.slice (some ⟨W.heap.size, 0, none⟩) 29 29) ∧ w'.cell? ⟨W.heap.size, j, none⟩ = some (.string (ba (tab.getD (j + 2) []))) ∧ Below W.heap.size W w' := fun W => (words_any W).mono fun e w' ⟨a, b, c⟩ => ⟨a, b j hj29, c⟩
            have hj0 : (0 : Int) ≤ (j : Int) := by omega
            have hj29i : (j : Int) < 29 := by omega
            have hji : kk - 2 = (j : Int) := by omega
            have hwrp : IntKind.i64.wrap (kk - 2) = (j : Int) := by rw [IntKind.wrap_i64]; omega
            have hwrj : IntKind.i64.wrap (j : Int) = (j : Int) := by rw [IntKind.wrap_i64]; omega
            have HJ := hidN hj
            clear hj
            generalize hx : ba (tab.getD (j + 2) []) = x at hadd1 hw0
            have Hw := hidN hw0
            clear hw0
            obtain ⟨p1, hp1⟩ : ∃ p1, pre ++ tab.getD (j + 2) [] = p1 := ⟨_, rfl⟩
            rw [hp1] at hadd1
            have hp1l : p1.length ≤ 10021 := by rw [← hp1, List.length_append]; omega
            have HX := hidN hx
            have HP1 := hidN hp1
            have HW1 := hidN hw1
            clear hx hp1 hw1
            go_wp2_with fail
            go_cut [3] from 6 to 70 (fun s3 wx => s3 = .string (ba p1) ∧ Below wr.heap.size wr wx)
            case first =>
              go_region_with (first | (go_at_call 29; refine (Hw.out _).mono ?_; rintro e w1 ⟨rfl, hcw, hbx⟩; have hcg : w1.cell? ⟨g, o + k * 3, none⟩ = some (.int .i64 kk) := (hbx.cell (p := ⟨g, o + k * 3, none⟩) (by simpa using hgr)).trans (by simpa using c0); have hcw2 : w1.cell? ⟨wr.heap.size, j, none⟩ = some (.string x) := hcw; have hbx2 : Below wr.heap.size wr w1 := ⟨hbx.os, hbx.tape, hbx.output, hbx.size, hbx.block⟩))
              all_goals (go_wp2_with fail; go_meet)
              all_goals exact ⟨rfl, hbx2⟩
            case rest =>
              obtain ⟨rfl, hbc⟩ := hcut
              have d0 : wc.cell? ⟨g, o + k * 3, none⟩ = some (.int .i64 kk) := (hbc.cell (p := ⟨g, o + k * 3, none⟩) hgr).trans c0
              have d2 : wc.cell? ⟨g, o + k * 3 + 2, none⟩ = some (.slice a1 b.len cap1) := (hbc.cell (p := ⟨g, o + k * 3 + 2, none⟩) hgr).trans c2
              have HFS := hidN (FS.below Hs.out hbc)
              have HB := hidN (hbel.trans (hbc.mono hsz))
              have hszc := HB.out.size
              clear c0 c1 c2 Hs hbc hadd1
              by_cases hbk : hasB kk = true
              · have htb := HTB.out hbk
                have htl : (txt true b).length ≤ 8064 := by
                  have h1 := txt_len (Hob.out hbk) hb3
                  have h2 := Ht.out
                  omega
                have HCall : Hid (∀ W, Below wc.heap.size wc W → Calls Tryd.prog 16 #[.slice a1 b.len cap1] W fun e w' => e = .returned (.string (ba (txt true b))) ∧ Below W.heap.size W w') := by
                  intro W hW
                  exact HI.out b _ W (d + 1) (by omega) (FS.below HFS.out hW) hb1 hb2 hb3 (Hob.out hbk) (by have h2 := Ht.out; omega)
                have HF : Hid (txt true (f.take (k + 1)) = p1 ++ ([32, 91, 32] ++ ((if txt true b = [] then [] else txt true b ++ [32]) ++ [93]))) := by
                  unfold Hid
                  rw [HPre.out, hpiece.out, HW1.out, if_pos hbk, ← HP1.out, List.append_assoc]
                have hadd2 : ∀ W, (Op.stringOp .add (ba p1) ⟨#[32, 91, 32]⟩).run Tryd.prog W = .ok (.string (ba (p1 ++ [32, 91, 32]))) W := add_ba p1 [32, 91, 32] (by simp; omega)
                obtain ⟨T, hT⟩ : ∃ T, txt true b = T := ⟨_, rfl⟩
                rw [hT] at htl HCall HF
                obtain ⟨p2, hp2⟩ : ∃ p2, p1 ++ [32, 91, 32] = p2 := ⟨_, rfl⟩
                have hp2l : p2.length ≤ 10024 := by rw [← hp2]; simp; omega
                rw [hp2] at hadd2
                by_cases hTe : T = []
                · have hne : T.isEmpty = true := by rw [hTe]; rfl
                  have hadd3 : ∀ W, (Op.stringOp .add (ba p2) ⟨#[93]⟩).run Tryd.prog W = .ok (.string (ba (p2 ++ [93]))) W := add_ba p2 [93] (by simp; omega)
                  have HF2 : Hid (txt true (f.take (k + 1)) = p2 ++ [93]) := by
                    unfold Hid
                    rw [HF.out, if_pos hTe, ← hp2]
                    simp
                  obtain ⟨p3, hp3⟩ : ∃ p3, p2 ++ [93] = p3 := ⟨_, rfl⟩
                  rw [hp3] at hadd3 HF2
                  clear hp2 hp3
                  subst hTe
                  rcases (show kk = 28 ∨ kk = 29 by unfold hasB at hbk; simp at hbk; omega) with rfl | rfl
                  · go_wp2_with (go_at_call 16; refine (HCall.out _ (Below.refl _ _)).mono ?_; rintro e w1 ⟨rfl, hbx⟩)
                    have HB2 := hidN (HB.out.trans (hbx.mono hszc))
                    go_roundw
                    case rel => exact ⟨k + 1, p3, by omega, by go_num, rfl, HF2, HB2.out⟩
                    case measure => simp [intOf]; omega
                  · go_wp2_with (go_at_call 16; refine (HCall.out _ (Below.refl _ _)).mono ?_; rintro e w1 ⟨rfl, hbx⟩)
                    have HB2 := hidN (HB.out.trans (hbx.mono hszc))
                    go_roundw
                    case rel => exact ⟨k + 1, p3, by omega, by go_num, rfl, HF2, HB2.out⟩
                    case measure => simp [intOf]; omega
                · have hne : T.isEmpty = false := by simpa using hTe
                  have hadd3 := add_ba p2 T (by omega)
                  have hadd4 : ∀ W, (Op.stringOp .add (ba (p2 ++ T)) ⟨#[32]⟩).run Tryd.prog W = .ok (.string (ba (p2 ++ T ++ [32]))) W := add_ba (p2 ++ T) [32] (by simp; omega)
                  have hadd5 : ∀ W, (Op.stringOp .add (ba (p2 ++ T ++ [32])) ⟨#[93]⟩).run Tryd.prog W = .ok (.string (ba (p2 ++ T ++ [32] ++ [93]))) W := add_ba (p2 ++ T ++ [32]) [93] (by simp; omega)
                  have HF2 : Hid (txt true (f.take (k + 1)) = p2 ++ T ++ [32] ++ [93]) := by
                    unfold Hid
                    rw [HF.out, if_neg hTe, ← hp2]
                    simp
                  obtain ⟨p3, hp3⟩ : ∃ p3, p2 ++ T ++ [32] ++ [93] = p3 := ⟨_, rfl⟩
                  rw [hp3] at hadd5 HF2
                  generalize p2 ++ T ++ [32] = p5 at hadd4 hadd5
                  generalize p2 ++ T = p4 at hadd3 hadd4
                  clear hp2 hp3
                  rcases (show kk = 28 ∨ kk = 29 by unfold hasB at hbk; simp at hbk; omega) with rfl | rfl
                  · go_wp2_with (go_at_call 16; refine (HCall.out _ (Below.refl _ _)).mono ?_; rintro e w1 ⟨rfl, hbx⟩)
                    have HB2 := hidN (HB.out.trans (hbx.mono hszc))
                    go_roundw
                    case rel => exact ⟨k + 1, p3, by omega, by go_num, rfl, HF2, HB2.out⟩
                    case measure => simp [intOf]; omega
                  · go_wp2_with (go_at_call 16; refine (HCall.out _ (Below.refl _ _)).mono ?_; rintro e w1 ⟨rfl, hbx⟩)
                    have HB2 := hidN (HB.out.trans (hbx.mono hszc))
                    go_roundw
                    case rel => exact ⟨k + 1, p3, by omega, by go_num, rfl, HF2, HB2.out⟩
                    case measure => simp [intOf]; omega
              · have hbf : hasB kk = false := by simpa using hbk
                have g1 : (kk == 28) = false := by unfold hasB at hbf; simp at hbf; simpa using hbf.1
                have g2 : (kk == 29) = false := by unfold hasB at hbf; simp at hbf; simpa using hbf.2
                have HF2 : Hid (txt true (f.take (k + 1)) = p1) := by
                  unfold Hid
                  rw [HPre.out, hpiece.out, HW1.out, if_neg hbk, ← HP1.out, List.append_nil]
                go_wp2
                go_roundw
                case rel => exact ⟨k + 1, p1, by omega, by go_num, rfl, HF2, HB.out⟩
                case measure => simp [intOf]; omega
        · have hkpi : (0 : Int) < (k : Int) := by omega
          have hadd0 : ∀ W, (Op.stringOp .add (ba S) ⟨#[32]⟩).run Tryd.prog W = .ok (.string (ba pre)) W := by rw [hps]; exact add_ba S [32] (by simp; omega)
          clear hps
          by_cases hk1 : kk = 1
          · subst hk1
            have hw1 : wordOf 1 nn = Lib.itoa nn := by unfold wordOf; rw [if_pos rfl]
            rw [hw1] at hwl
            have hadd1 := add_ba pre (Lib.itoa nn) (by omega)
            have HF : Hid (txt true (f.take (k + 1)) = pre ++ Lib.itoa nn) := by
              unfold Hid
              rw [HPre.out, hpiece.out, hw1]
              simp [hasB]
            have Hd := hidN (fun W => decimal_any nn W hnn.1 hnn.2)
            generalize hx : pre ++ Lib.itoa nn = S1 at hadd1 HF
            clear hw1 hx
            go_wp2_with (go_at_call 28; refine (Hd.out _).mono ?_; rintro e w1 ⟨rfl, hbx⟩)
            have HB := hidN (hbel.trans (hbx.mono hsz))
            clear hbx
            go_roundw
            case rel => exact ⟨k + 1, S1, by omega, by go_num, rfl, HF, HB.out⟩
            case measure => simp [intOf]; omega
          · obtain ⟨j, hj⟩ : ∃ j : Nat, kk = (j : Int) + 2 := ⟨(kk - 2).toNat, by omega⟩
            have hj29 : j < 29 := by omega
            have hw1 : wordOf kk nn = tab.getD (j + 2) [] := by unfold wordOf; rw [if_neg hk1, hj]; congr 1
            rw [hw1] at hwl
            have e1 : (kk == 1) = false := beq_eq_false_iff_ne.2 hk1
            have hadd1 := add_ba pre (tab.getD (j + 2) []) (by omega)
            have hw0 : ∀ W, Calls Tryd.prog 29 #[] W fun e w' => e = .returned (.slice (some ⟨W.heap.size, 0, none⟩) 29 29) ∧ w'.cell? ⟨W.heap.size, j, none⟩ = some (.string (ba (tab.getD (j + 2) []))) ∧ Below W.heap.size W w' := fun W => (words_any W).mono fun e w' ⟨a, b, c⟩ => ⟨a, b j hj29, c⟩
            have hj0 : (0 : Int) ≤ (j : Int) := by omega
            have hj29i : (j : Int) < 29 := by omega
            have hji : kk - 2 = (j : Int) := by omega
            have hwrp : IntKind.i64.wrap (kk - 2) = (j : Int) := by rw [IntKind.wrap_i64]; omega
            have hwrj : IntKind.i64.wrap (j : Int) = (j : Int) := by rw [IntKind.wrap_i64]; omega
            have HJ := hidN hj
            clear hj
            generalize hx : ba (tab.getD (j + 2) []) = x at hadd1 hw0
            have Hw := hidN hw0
            clear hw0
            obtain ⟨p1, hp1⟩ : ∃ p1, pre ++ tab.getD (j + 2) [] = p1 := ⟨_, rfl⟩
            rw [hp1] at hadd1
            have hp1l : p1.length ≤ 10021 := by rw [← hp1, List.length_append]; omega
            have HX := hidN hx
            have HP1 := hidN hp1
            have HW1 := hidN hw1
            clear hx hp1 hw1
            go_wp2_with fail
            go_cut [3] from 6 to 70 (fun s3 wx => s3 = .string (ba p1) ∧ Below wr.heap.size wr wx)
            case first =>
              go_region_with (first | (go_at_call 29; refine (Hw.out _).mono ?_; rintro e w1 ⟨rfl, hcw, hbx⟩; have hcg : w1.cell? ⟨g, o + k * 3, none⟩ = some (.int .i64 kk) := (hbx.cell (p := ⟨g, o + k * 3, none⟩) (by simpa using hgr)).trans (by simpa using c0); have hcw2 : w1.cell? ⟨wr.heap.size, j, none⟩ = some (.string x) := hcw; have hbx2 : Below wr.heap.size wr w1 := ⟨hbx.os, hbx.tape, hbx.output, hbx.size, hbx.block⟩))
              all_goals (go_wp2_with fail; go_meet)
              all_goals exact ⟨rfl, hbx2⟩
            case rest =>
              obtain ⟨rfl, hbc⟩ := hcut
              have d0 : wc.cell? ⟨g, o + k * 3, none⟩ = some (.int .i64 kk) := (hbc.cell (p := ⟨g, o + k * 3, none⟩) hgr).trans c0
              have d2 : wc.cell? ⟨g, o + k * 3 + 2, none⟩ = some (.slice a1 b.len cap1) := (hbc.cell (p := ⟨g, o + k * 3 + 2, none⟩) hgr).trans c2
              have HFS := hidN (FS.below Hs.out hbc)
              have HB := hidN (hbel.trans (hbc.mono hsz))
              have hszc := HB.out.size
              clear c0 c1 c2 Hs hbc hadd1
              by_cases hbk : hasB kk = true
              · have htb := HTB.out hbk
                have htl : (txt true b).length ≤ 8064 := by
                  have h1 := txt_len (Hob.out hbk) hb3
                  have h2 := Ht.out
                  omega
                have HCall : Hid (∀ W, Below wc.heap.size wc W → Calls Tryd.prog 16 #[.slice a1 b.len cap1] W fun e w' => e = .returned (.string (ba (txt true b))) ∧ Below W.heap.size W w') := by
                  intro W hW
                  exact HI.out b _ W (d + 1) (by omega) (FS.below HFS.out hW) hb1 hb2 hb3 (Hob.out hbk) (by have h2 := Ht.out; omega)
                have HF : Hid (txt true (f.take (k + 1)) = p1 ++ ([32, 91, 32] ++ ((if txt true b = [] then [] else txt true b ++ [32]) ++ [93]))) := by
                  unfold Hid
                  rw [HPre.out, hpiece.out, HW1.out, if_pos hbk, ← HP1.out, List.append_assoc]
                have hadd2 : ∀ W, (Op.stringOp .add (ba p1) ⟨#[32, 91, 32]⟩).run Tryd.prog W = .ok (.string (ba (p1 ++ [32, 91, 32]))) W := add_ba p1 [32, 91, 32] (by simp; omega)
                obtain ⟨T, hT⟩ : ∃ T, txt true b = T := ⟨_, rfl⟩
                rw [hT] at htl HCall HF
                obtain ⟨p2, hp2⟩ : ∃ p2, p1 ++ [32, 91, 32] = p2 := ⟨_, rfl⟩
                have hp2l : p2.length ≤ 10024 := by rw [← hp2]; simp; omega
                rw [hp2] at hadd2
                by_cases hTe : T = []
                · have hne : T.isEmpty = true := by rw [hTe]; rfl
                  have hadd3 : ∀ W, (Op.stringOp .add (ba p2) ⟨#[93]⟩).run Tryd.prog W = .ok (.string (ba (p2 ++ [93]))) W := add_ba p2 [93] (by simp; omega)
                  have HF2 : Hid (txt true (f.take (k + 1)) = p2 ++ [93]) := by
                    unfold Hid
                    rw [HF.out, if_pos hTe, ← hp2]
                    simp
                  obtain ⟨p3, hp3⟩ : ∃ p3, p2 ++ [93] = p3 := ⟨_, rfl⟩
                  rw [hp3] at hadd3 HF2
                  clear hp2 hp3
                  subst hTe
                  rcases (show kk = 28 ∨ kk = 29 by unfold hasB at hbk; simp at hbk; omega) with rfl | rfl
                  · go_wp2_with (go_at_call 16; refine (HCall.out _ (Below.refl _ _)).mono ?_; rintro e w1 ⟨rfl, hbx⟩)
                    have HB2 := hidN (HB.out.trans (hbx.mono hszc))
                    go_roundw
                    case rel => exact ⟨k + 1, p3, by omega, by go_num, rfl, HF2, HB2.out⟩
                    case measure => simp [intOf]; omega
                  · go_wp2_with (go_at_call 16; refine (HCall.out _ (Below.refl _ _)).mono ?_; rintro e w1 ⟨rfl, hbx⟩)
                    have HB2 := hidN (HB.out.trans (hbx.mono hszc))
                    go_roundw
                    case rel => exact ⟨k + 1, p3, by omega, by go_num, rfl, HF2, HB2.out⟩
                    case measure => simp [intOf]; omega
                · have hne : T.isEmpty = false := by simpa using hTe
                  have hadd3 := add_ba p2 T (by omega)
                  have hadd4 : ∀ W, (Op.stringOp .add (ba (p2 ++ T)) ⟨#[32]⟩).run Tryd.prog W = .ok (.string (ba (p2 ++ T ++ [32]))) W := add_ba (p2 ++ T) [32] (by simp; omega)
                  have hadd5 : ∀ W, (Op.stringOp .add (ba (p2 ++ T ++ [32])) ⟨#[93]⟩).run Tryd.prog W = .ok (.string (ba (p2 ++ T ++ [32] ++ [93]))) W := add_ba (p2 ++ T ++ [32]) [93] (by simp; omega)
                  have HF2 : Hid (txt true (f.take (k + 1)) = p2 ++ T ++ [32] ++ [93]) := by
                    unfold Hid
                    rw [HF.out, if_neg hTe, ← hp2]
                    simp
                  obtain ⟨p3, hp3⟩ : ∃ p3, p2 ++ T ++ [32] ++ [93] = p3 := ⟨_, rfl⟩
                  rw [hp3] at hadd5 HF2
                  generalize p2 ++ T ++ [32] = p5 at hadd4 hadd5
                  generalize p2 ++ T = p4 at hadd3 hadd4
                  clear hp2 hp3
                  rcases (show kk = 28 ∨ kk = 29 by unfold hasB at hbk; simp at hbk; omega) with rfl | rfl
                  · go_wp2_with (go_at_call 16; refine (HCall.out _ (Below.refl _ _)).mono ?_; rintro e w1 ⟨rfl, hbx⟩)
                    have HB2 := hidN (HB.out.trans (hbx.mono hszc))
                    go_roundw
                    case rel => exact ⟨k + 1, p3, by omega, by go_num, rfl, HF2, HB2.out⟩
                    case measure => simp [intOf]; omega
                  · go_wp2_with (go_at_call 16; refine (HCall.out _ (Below.refl _ _)).mono ?_; rintro e w1 ⟨rfl, hbx⟩)
                    have HB2 := hidN (HB.out.trans (hbx.mono hszc))
                    go_roundw
                    case rel => exact ⟨k + 1, p3, by omega, by go_num, rfl, HF2, HB2.out⟩
                    case measure => simp [intOf]; omega
              · have hbf : hasB kk = false := by simpa using hbk
                have g1 : (kk == 28) = false := by unfold hasB at hbf; simp at hbf; simpa using hbf.1
                have g2 : (kk == 29) = false := by unfold hasB at hbf; simp at hbf; simpa using hbf.2
                have HF2 : Hid (txt true (f.take (k + 1)) = p1) := by
                  unfold Hid
                  rw [HPre.out, hpiece.out, HW1.out, if_neg hbk, ← HP1.out, List.append_nil]
                go_wp2
                go_roundw
                case rel => exact ⟨k + 1, p1, by omega, by go_num, rfl, HF2, HB.out⟩
                case measure => simp [intOf]; omega
      · have hke : k = n := by omega
        have HC : Hid (ba S = ba (txt true f)) := by
          have := HS.out
          rw [hke, ← HN.out, Fo.take_all _ f (Nat.le_refl _)] at this
          unfold Hid
          rw [this]
        have hlt' : n ≤ k := by omega
        clear hke
        go_wp2
        go_ret
        exact ⟨by rw [← HC.out]; rfl, hbel⟩
end Go.Proofs.YtaaijlkjbmpegaaDoor
