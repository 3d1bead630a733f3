/- Texts laid together: LCountF, LChk, CFn, CList, CNeed. -/
import Derived.Test.YtclcgakfmcofaaaGreatDoorMW10
import Derived.Test.YtclcgakfmcofaaaGreatDoorMW11
import Derived.StillTailTactics
import Derived.Deep.QuietTactic
import Derived.BigQuiet
set_option linter.unusedVariables false
set_option maxRecDepth 100000
set_option maxHeartbeats 1600000
namespace Go.Proofs.YtclcgakfmcofaaaGreatDoor
open Go.RowKit
def CR (f : Fo) (d a : Nat) (e : Ending) : Prop := ((eZ f d = true ∧ a + eN f ≤ 128) ∧ e = .returned (.tuple #[.int .i64 ((a + eN f : Nat) : Int), .bool true])) ∨ (¬ (eZ f d = true ∧ a + eN f ≤ 128) ∧ e = .returned (.tuple #[.int .i64 0, .bool false]))
theorem count_sz : ∀ (s : Nat) (f : Fo) (v : Value) (w : World) (d a : Nat), f.sz ≤ s → FS QA w v f → f.len ≤ 3518437208780 → jo f → d ≤ 7 → a ≤ 128 →
  Calls Tryz.prog 216 #[v, .int .i64 d, .int .i64 a] w fun e w' => CR f d a e ∧ Below w.heap.size w w' := by
 intro s
 induction s with
 | zero =>
  intro f v w d a hs h hl hwf hd ha
  obtain rfl : f = .nil := by cases f with
   | nil => rfl
   | cons k n b r => simp [Fo.sz] at hs
  obtain ⟨a1, cap, rfl⟩ := h.val
  simp only [Fo.len]
  have hai : (a : Int) ≤ 128 := by omega
  by_cases hd6 : d ≤ 6
  ·have hdi : (d : Int) ≤ 6 := by omega
   have HC : Hid (CR .nil d a (.returned (.tuple #[.int .i64 (a : Int), .bool true]))) := .inl ⟨⟨by simp [eZ, hd6], by simpa [eN] using ha⟩, by simp [eN]⟩
   clear hs hl hwf h
   go_enter Tryz.func216, Tryz.ntmps216
   go_wp2
   go_loop [6, 7, 22] (fun n _ i => n = .int .i64 a ∧ i = .int .i64 0) (fun _ _ _ => 0)
   case atStart => exact ⟨rfl, rfl⟩
   case round =>
    obtain ⟨rfl, rfl⟩ := hrel
    go_wp2
    go_ret2
    exact ⟨HC.out, Below.refl _ _⟩
  ·have hdi : (6 : Int) < d := by omega
   have HC : Hid (CR .nil d a (.returned (.tuple #[.int .i64 0, .bool false]))) := .inr ⟨fun hc => by simp [eZ] at hc; omega, rfl⟩
   clear hs hl hwf h
   go_enter Tryz.func216, Tryz.ntmps216
   go_wp2
   go_ret2
   exact ⟨HC.out, Below.refl _ _⟩
 | succ s ih =>
  intro f v w d a hs h hl hwf hd ha
  rcases h.shape with ⟨a1, cap, rfl, hf⟩ | ⟨g, o, cap, rfl, hq, hat⟩
  ·subst hf
   exact ih .nil _ w d a (by simp [Fo.sz]) h hl hwf hd ha
  have hai : (a : Int) ≤ 128 := by omega
  obtain ⟨n, hn⟩ : ∃ n, f.len = n := ⟨_, rfl⟩
  rw [hn] at hl ⊢
  have HN : Hid (f.len = n) := hn
  have HI := cO ih
  have hgw : g < w.heap.size := hq
  have Hat := cO hat
  have Hwf := cO hwf
  by_cases hgo : a + n ≤ 128 ∧ d ≤ 6
  ·obtain ⟨hn1, hd6⟩ := hgo
   have hdi : (d : Int) ≤ 6 := by omega
   have hni : (a : Int) + (n : Int) ≤ 128 := by omega
   clear hn ih h hat hwf
   go_enter Tryz.func216, Tryz.ntmps216
   go_wp2
   go_loopw [6, 7, 22] (fun x _ i wr => ∃ (k z : Nat), k ≤ n ∧ i = .int .i64 k ∧ x = .int .i64 z ∧ z ≤ 128 ∧ Hid (z = a + n + bt (f.take k) ∧ dX (f.take k) d = true) ∧ Below w.heap.size w wr) (fun _ _ i _ => n - (intOf i).toNat)
   case atStart => exact ⟨0, a + n, by omega, rfl, by go_num, by omega, ⟨by cases f <;> rfl, by cases f <;> rfl⟩, Below.refl _ _⟩
   case round =>
    obtain ⟨k, z, hk, rfl, rfl, hz, HZ, hbel⟩ := hrel
    have hsz := hbel.size
    by_cases hlt : k < n
    ·have hat' : fG QA wr f g o := Hat.out.move (fun b o hq => ⟨hbel.block b hq, Nat.lt_of_lt_of_le hq hsz⟩) (hbel.block g hgw)
     obtain ⟨kk, nn, b, r, sv, e1, e2, e3, c0, c1, c2, hsv⟩ := hat'.at (i := k) (by rw [HN.out]; exact hlt)
     obtain ⟨hb1, hb2⟩ := Hwf.out.at e1
     have hbs := Fo.sz_blk e1
     have HT := cO e3
     have HD := cO e1
     have Hs : Hid (FS QA wr sv b) := hsv
     obtain ⟨a1, cap1, rfl⟩ := hsv.val
     have hgr : g < wr.heap.size := by omega
     have hB1 := (Below.refl wr.heap.size wr).alloc (Nat.le_refl _) (.cells #[.int .i64 kk, .int .i64 nn, .slice a1 b.len cap1] 230)
     have HB1 := cO hB1
     have Ha := cO (alone_any kk nn a1 b cap1 (wr.alloc (.cells #[.int .i64 kk, .int .i64 nn, .slice a1 b.len cap1] 230)))
     clear e1 e2 e3 hat' hsv hB1
     cases hal : bQ kk nn b with
     | false =>
      rw [hal] at Ha
      have HC : Hid (CR f d a (.returned (.tuple #[.int .i64 0, .bool false]))) := .inr ⟨eR HD.out (.inl (by simp [ox, hal])), rfl⟩
      clear hal
      go_wp2_with (go_at_call 247; refine Ha.out.mono ?_; rintro e w1 ⟨rfl, hb1⟩)
      go_ret2
      exact ⟨HC.out, (hbel.trans (HB1.out.mono hsz)).trans (hb1.mono (by simp; omega))⟩
     | true =>
      rw [hal] at Ha
      have HAL := cO hal
      clear hal
      have Hh := cO (fun W => jO kk W)
      cases hbk : bm kk with
      | false =>
       rw [hbk] at Hh
       have HZ2 : Hid (z = a + n + bt (f.take (k + 1)) ∧ dX (f.take (k + 1)) d = true) := by
        have := HZ.out
        unfold Hid
        rw [HT.out, gM, eQ]
        simp [bt, dX, ox, HAL.out, hbk, this.2]
        exact this.1
       clear hbk
       go_wp2_with fail
       refine Ha.out.mono ?_
       rintro e w1 ⟨rfl, hb1⟩
       have hbox := (aA.new wr kk nn (.slice a1 b.len cap1)).step hb1
       obtain ⟨d0, d1, d2⟩ := hbox.cells
       have HB2 := cO ((hbel.trans (HB1.out.mono hsz)).trans (hb1.mono (by simp; omega)))
       clear hbox hb1 c0 c1 c2
       go_wp2_with (go_at_call 186; refine (Hh.out _).mono ?_; rintro e w' ⟨rfl, rfl⟩)
       go_roundw
       case rel => exact ⟨k + 1, z, by omega, by go_num, rfl, hz, HZ2, HB2.out⟩
       case measure => simp [intOf]; omega
      | true =>
       rw [hbk] at Hh
       have HBK := cO hbk
       clear hbk
       go_wp2_with fail
       refine Ha.out.mono ?_
       rintro e w1 ⟨rfl, hb1⟩
       have hbox := (aA.new wr kk nn (.slice a1 b.len cap1)).step hb1
       obtain ⟨d0, d1, d2⟩ := hbox.cells
       have hbw1 := (hbel.trans (HB1.out.mono hsz)).trans (hb1.mono (by simp; omega))
       have hs1 := hbw1.size
       have hfs1 : FS QA w1 (.slice a1 b.len cap1) b := (Hs.out.below HB1.out).below hb1
       have hc := HI.out b _ w1 (d + 1) z (by omega) hfs1 (by omega) hb2 (by omega) hz
       rw [show ((d + 1 : Nat) : Int) = (d : Int) + 1 by omega] at hc
       have Hc := cO hc
       have HB2 := cO hbw1
       clear hbox hb1 c0 c1 c2 hbw1 hfs1 hc
       have hdi2 : (0 : Int) ≤ d := by omega
       go_wp2_with (first | (go_at_call 186; refine (Hh.out _).mono ?_; rintro e w' ⟨rfl, rfl⟩))
       refine Hc.out.mono ?_
       rintro e w2 ⟨hcr, hb2'⟩
       have HB3 := cO (HB2.out.trans (hb2'.mono hs1))
       rcases hcr with ⟨⟨hk1, hk2⟩, rfl⟩ | ⟨hk1, rfl⟩
       ·have HZ2 : Hid (z + eN b = a + n + bt (f.take (k + 1)) ∧ dX (f.take (k + 1)) d = true) := by
         have := HZ.out
         unfold Hid
         rw [HT.out, gM, eQ]
         simp [bt, dX, ox, HAL.out, HBK.out, this.2, hk1]
         omega
        clear hk1 hb2'
        go_wp2
        go_roundw
        case rel => exact ⟨k + 1, z + eN b, by omega, by go_num, rfl, hk2, HZ2, HB3.out⟩
        case measure => simp [intOf]; omega
       ·have HC : Hid (CR f d a (.returned (.tuple #[.int .i64 0, .bool false]))) := .inr ⟨eR HD.out (by
         have := HZ.out
         have hnn := HN.out
         by_cases hof : eZ b (d + 1) = true
         ·right
          have : ¬ z + eN b ≤ 128 := fun h => hk1 ⟨hof, h⟩
          rw [HBK.out]
          simp
          omega
         ·left
          simp [ox, HBK.out, hof]), rfl⟩
        clear hk1 hb2'
        go_wp2
        go_ret2
        exact ⟨HC.out, HB3.out⟩
    ·have hke : k = n := by omega
     have HC : Hid (CR f d a (.returned (.tuple #[.int .i64 (z : Int), .bool true]))) := by
      have := HZ.out
      have hnn := HN.out
      rw [hke, ← hnn, Fo.take_all _ f (Nat.le_refl _)] at this
      have ht := tot_bt f
      refine .inl ⟨⟨by rw [okF_all, this.2]; simp [hd6], by omega⟩, ?_⟩
      have : z = a + eN f := by omega
      rw [this]
     have hlt' : n ≤ k := by omega
     clear hke
     go_wp2
     go_ret2
     exact ⟨HC.out, hbel⟩
  ·have HC : Hid (CR f d a (.returned (.tuple #[.int .i64 0, .bool false]))) := .inr ⟨fun hc => hgo (by
    have h1 := okF_deep hc.1
    have h2 := tot_len f
    rw [hn] at h2
    omega), rfl⟩
   clear hn ih h hat hwf
   by_cases hn1 : a + n ≤ 128
   ·have hni : (a : Int) + (n : Int) ≤ 128 := by omega
    have hdi : (6 : Int) < d := by omega
    clear hgo
    go_enter Tryz.func216, Tryz.ntmps216
    go_wp2
    go_ret2
    exact ⟨HC.out, Below.refl _ _⟩
   ·have hni : (128 : Int) < (a : Int) + (n : Int) := by omega
    clear hgo
    go_enter Tryz.func216, Tryz.ntmps216
    go_wp2
    go_ret2
    exact ⟨HC.out, Below.refl _ _⟩
def May (f : Fo) : Prop := eZ f 0 = true ∧ eN f ≤ 128
def CntR (f : Fo) (e : Ending) : Prop := (May f ∧ e = .returned (.tuple #[.int .i64 (eN f : Int), .int .i64 0])) ∨ (¬ May f ∧ e = .returned (.tuple #[.int .i64 0, .int .i64 1]))
theorem cnt_any (f : Fo) (v : Value) (w : World) (h : FS QA w v f) (hl : f.len ≤ 3518437208780) (hwf : jo f) :
  Calls Tryz.prog 188 #[v] w fun e w' => CntR f e ∧ Below w.heap.size w w' := by
 have Hc := cO (count_sz f.sz f v w 0 0 (Nat.le_refl _) h hl hwf (by omega) (by omega))
 rw [show ((0 : Nat) : Int) = 0 from rfl] at Hc
 obtain ⟨a, cap, rfl⟩ := h.val
 clear h hl hwf
 go_enter Tryz.func188, Tryz.ntmps188
 go_wp2_with (go_at_call 216; refine Hc.out.mono ?_)
 rintro e w1 ⟨hcr, hb⟩
 rcases hcr with ⟨hm, rfl⟩ | ⟨hm, rfl⟩
 ·rw [Nat.zero_add] at hm ⊢
  have HM := cO hm
  clear hm
  go_wp2
  go_ret2
  exact ⟨.inl ⟨HM.out, rfl⟩, hb⟩
 ·rw [Nat.zero_add] at hm
  have HM := cO hm
  clear hm
  go_wp2
  go_ret2
  exact ⟨.inr ⟨HM.out, rfl⟩, hb⟩
def ChkR (f : Fo) (e : Ending) : Prop := (May f ∧ e = .returned (.int .i64 0)) ∨ (¬ May f ∧ e = .returned (.int .i64 1))
theorem chk_any (f : Fo) (v : Value) (w : World) (h : FS QA w v f) (hl : f.len ≤ 3518437208780) (hwf : jo f) :
  Calls Tryz.prog 149 #[v] w fun e w' => ChkR f e ∧ Below w.heap.size w w' := by
 have Hc := cO (cnt_any f v w h hl hwf)
 obtain ⟨a, cap, rfl⟩ := h.val
 clear h hl hwf
 go_enter Tryz.func149, Tryz.ntmps149
 go_wp2_with (go_at_call 188; refine Hc.out.mono ?_)
 rintro e w1 ⟨hcr, hb⟩
 rcases hcr with ⟨hm, rfl⟩ | ⟨hm, rfl⟩
 ·have HM := cO hm
  clear hm
  go_wp2
  go_ret
  exact ⟨.inl ⟨HM.out, rfl⟩, hb⟩
 ·have HM := cO hm
  clear hm
  go_wp2
  go_ret
  exact ⟨.inr ⟨HM.out, rfl⟩, hb⟩
theorem aS {p : Prop} (h : p) : Hid p := h
theorem change_any (k : Int) (w : World) : Calls Tryz.prog 217 #[.int .i64 k] w fun e w' => e = .returned (.tuple #[.int .i64 (tk k), .int .i64 (lv k)]) ∧ w' = w := by
 unfold tk lv
 by_cases h1 : k ≤ 4
 ·have e1 : k ≤ 24 := by omega
  rw [if_pos h1, if_pos e1]
  clear e1
  go_enter Tryz.func217, Tryz.ntmps217
  go_wp2
  go_ret2
  exact ⟨rfl, rfl⟩
 rw [if_neg h1]
 by_cases h2 : k ≤ 17
 ·have e1 : k ≤ 24 := by omega
  rw [if_pos h2, if_pos e1]
  clear e1
  go_enter Tryz.func217, Tryz.ntmps217
  go_wp2
  go_ret2
  exact ⟨rfl, rfl⟩
 rw [if_neg h2]
 by_cases h3 : k ≤ 24
 ·have e1 : k ≤ 25 := by omega
  rw [if_pos h3, if_pos e1]
  clear e1
  go_enter Tryz.func217, Tryz.ntmps217
  go_wp2
  go_ret2
  exact ⟨rfl, rfl⟩
 rw [if_neg h3]
 by_cases h4 : k ≤ 25
 ·have e1 : k ≤ 26 := by omega
  rw [if_pos h4, if_pos e1]
  clear e1
  go_enter Tryz.func217, Tryz.ntmps217
  go_wp2
  go_ret2
  exact ⟨rfl, rfl⟩
 rw [if_neg h4]
 by_cases h5 : k ≤ 26
 ·rw [if_pos h5, if_pos h5]
  go_enter Tryz.func217, Tryz.ntmps217
  go_wp2
  go_ret2
  exact ⟨rfl, rfl⟩
 rw [if_neg h5, if_neg h5]
 by_cases h6 : k ≤ 29
 ·rw [if_pos h6]
  go_enter Tryz.func217, Tryz.ntmps217
  go_wp2
  go_ret2
  exact ⟨rfl, rfl⟩
 rw [if_neg h6]
 go_enter Tryz.func217, Tryz.ntmps217
 go_wp2
 go_ret2
 exact ⟨rfl, rfl⟩
def dS (W : World) (R : Nat) (h m : Int) : Prop := W.heap[R]? = some (.cells #[.int .i64 h, .int .i64 m] 234 (0, 0))
theorem dS.new (W : World) (h m : Int) : dS (W.alloc (.cells #[.int .i64 h, .int .i64 m] 234)) W.heap.size h m := heap_alloc_new W _
theorem dS.lt {W : World} {R : Nat} {h m : Int} (b : dS W R h m) : R < W.heap.size := (Array.getElem?_eq_some_iff.1 b).1
theorem dS.step {W W' : World} {R : Nat} {h m : Int} (b : dS W R h m) (hw : Below W.heap.size W W') : dS W' R h m := by unfold dS; rw [hw.block R b.lt]; exact b
theorem dS.cells {W : World} {R : Nat} {h m : Int} (b : dS W R h m) : (W.cell? ⟨R, 0, none⟩ = some (.int .i64 h) ∧ W.cell? ⟨R, 1, none⟩ = some (.int .i64 m)) ∧ W.frozen? ⟨R, 0, none⟩ = false ∧ W.frozen? ⟨R, 1, none⟩ = false := by
 unfold dS at b
 refine ⟨⟨?_, ?_⟩, ?_, ?_⟩ <;> simp [World.cell?, World.frozen?, b]
theorem dS.put {W : World} {R : Nat} {h m : Int} (b : dS W R h m) (h' m' : Int) : dS ((W.setCell ⟨R, 0, none⟩ (.int .i64 h')).setCell ⟨R, 1, none⟩ (.int .i64 m')).drew R h' m' := by
 unfold dS at b ⊢
 simp only [World.setCell, World.drew, Array.getElem?_modify, b]
 simp
theorem dS.grown {W : World} {R : Nat} (h' m' : Int) : W.grownBy ((W.setCell ⟨R, 0, none⟩ (.int .i64 h')).setCell ⟨R, 1, none⟩ (.int .i64 m')).drew (some R) :=
 ⟨rfl, rfl, rfl, by simp [World.setCell, World.drew], fun k hk hne => by
  have hk' : k ≠ R := fun e => hne (by rw [e])
  show ((W.setCell ⟨R, 0, none⟩ (.int .i64 h')).setCell ⟨R, 1, none⟩ (.int .i64 m')).heap[k]? = _
  rw [Below.heap_setCell _ _ _ _ hk', Below.heap_setCell _ _ _ _ hk']⟩
def WordR (k h m fl : Int) (R : Nat) (w : World) (e : Ending) (w' : World) : Prop :=
 (h - tk k < fl ∧ e = .returned (.bool false) ∧ w' = w) ∨ (fl ≤ h - tk k ∧ e = .returned (.bool (decide (h - tk k + lv k ≤ 16))) ∧ dS w' R (h - tk k + lv k) (max m (h - tk k + lv k)) ∧ w.grownBy w' (some R))
theorem word_any (k hh m fl : Int) (R : Nat) (w : World) (b : dS w R hh m) (h0 : 0 ≤ hh) (h1 : hh ≤ 16) (m0 : 0 ≤ m) (m1 : m ≤ 16) (f0 : 0 ≤ fl) :
  Calls Tryz.prog 189 #[.pointer (some ⟨R, 0, none⟩), .int .i64 k, .int .i64 fl] w fun e w' => WordR k hh m fl R w e w' := by
 have Hc := aS (change_any k w)
 have ht := tk_bd k
 have hl := jQ k
 unfold WordR
 generalize tk k = t at Hc ht ⊢
 generalize lv k = u at Hc hl ⊢
 have HB := aS b
 obtain ⟨⟨c0, c1⟩, z0, z1⟩ := b.cells
 clear b
 by_cases hf : hh - t < fl
 ·go_enter Tryz.func189, Tryz.ntmps189
  go_wp2_with (go_at_call 217; refine Hc.out.mono ?_; rintro e w' ⟨rfl, rfl⟩)
  go_ret
  exact .inl ⟨hf, rfl, rfl⟩
 ·have hf' : fl ≤ hh - t := by omega
  have e1 : hh - t + u = hh + (u - t) := by omega
  have HE := aS e1
  clear hf e1
  go_enter Tryz.func189, Tryz.ntmps189
  go_wp2_with (go_at_call 217; refine Hc.out.mono ?_; rintro e w' ⟨rfl, rfl⟩)
  go_region
  go_wp2
  ·have e2 : max m (hh - t + u) = hh + (u - t) := by omega
   go_ret
   refine .inr ⟨by rw [HE.out]; rfl, ?_, dS.grown _ _⟩
   rw [e2, HE.out]
   exact HB.out.put _ _
  ·have e2 : max m (hh - t + u) = m := by omega
   go_ret
   refine .inr ⟨by rw [HE.out]; rfl, ?_, dS.grown _ _⟩
   rw [e2, HE.out]
   exact HB.out.put _ _
def ListR (f : Fo) (h m : Int) (R : Nat) (w : World) (e : Ending) (w' : World) : Prop :=
 (∃ l p, nd f h h m = some (l, p) ∧ e = .returned (.bool true) ∧ dS w' R l p) ∨ (nd f h h m = none ∧ e = .returned (.bool false))
def ListK (B : Nat) (f : Fo) : Prop := ∀ (v : Value) (w : World) (h m : Int) (R : Nat), FS (QB B) w v f → f.len ≤ 3518437208780 → jo f → dS w R h m → B ≤ R → 0 ≤ h → h ≤ m → m ≤ 16 →
 Calls Tryz.prog 150 #[.pointer (some ⟨R, 0, none⟩), v] w fun e w' => ListR f h m R w e w' ∧ w.grownBy w' (some R)
def BlockR (f : Fo) (h m : Int) (R : Nat) (w : World) (e : Ending) (w' : World) : Prop :=
 (∃ p, nd f h h m = some (h, p) ∧ e = .returned (.bool true) ∧ dS w' R h p) ∨ ((∀ p, nd f h h m ≠ some (h, p)) ∧ e = .returned (.bool false))
theorem block_chk (B : Nat) (f : Fo) (IH : ListK B f) (v : Value) (w : World) (h m : Int) (R : Nat) (hf : FS (QB B) w v f) (hl : f.len ≤ 3518437208780) (hwf : jo f) (hb : dS w R h m) (hB : B ≤ R) (h0 : 0 ≤ h) (h1 : h ≤ m) (h2 : m ≤ 16) :
  Calls Tryz.prog 190 #[.pointer (some ⟨R, 0, none⟩), v] w fun e w' => BlockR f h m R w e w' ∧ w.grownBy w' (some R) := by
 have Hc := aS (IH v w h m R hf hl hwf hb hB h0 h1 h2)
 obtain ⟨⟨c0, c1⟩, _⟩ := hb.cells
 obtain ⟨a, cap, rfl⟩ := hf.val
 clear hf IH hb
 go_enter Tryz.func190, Tryz.ntmps190
 go_wp2_with fail
 refine Hc.out.mono ?_
 rintro e w1 ⟨hr, hg⟩
 have HG := aS hg
 rcases hr with ⟨l, p, hn, rfl, hb1⟩ | ⟨hn, rfl⟩
 ·have hbd := oy _ _ _ _ _ _ hn (by omega) h1 h2
  obtain ⟨⟨d0, d1⟩, _⟩ := hb1.cells
  have HB := aS hb1
  have HN := aS hn
  clear hb1 hn hg c0 c1
  by_cases he : l = h
  ·subst he
   go_wp2
   go_ret
   exact ⟨.inl ⟨p, HN.out, rfl, HB.out⟩, HG.out⟩
  ·have hne : (l == h) = false := beq_eq_false_iff_ne.2 he
   have HC : Hid (BlockR f h m R w (.returned (.bool false)) w1) := .inr ⟨fun q hq => he (by rw [HN.out] at hq; injection hq with hq; injection hq), rfl⟩
   clear he
   go_wp2
   go_ret
   exact ⟨HC.out, HG.out⟩
 ·have HC : Hid (BlockR f h m R w (.returned (.bool false)) w1) := .inr ⟨fun q hq => (by rw [hn] at hq; cases hq), rfl⟩
  clear hn hg
  go_wp2
  go_ret
  exact ⟨HC.out, HG.out⟩
theorem fs_grown {B R : Nat} {w w' : World} {v : Value} {f : Fo} (h : FS (QB B) w v f) (hg : w.grownBy w' (some R)) (hB : B ≤ R) (hs : B ≤ w.heap.size) : FS (QB B) w' v f :=
 h.move fun b o hq => ⟨hg.block b (Nat.lt_of_lt_of_le hq hs) (fun e => by injection e with e; have : b < B := hq; omega), hq⟩
structure LK (f : Fo) (h m : Int) (B R : Nat) (w : World) (k : Nat) (wr : World) : Prop where
 st : ∃ h' m', dS wr R h' m' ∧ h ≤ h' ∧ h' ≤ m' ∧ m' ≤ 16 ∧ nd f h h m = nd (f.drop k) h' h m'
 gr : w.grownBy wr (some R)
theorem LK.fin {f : Fo} {h m : Int} {B R k : Nat} {w wr : World} (H : LK f h m B R w k wr) (hk : f.len ≤ k) : ListR f h m R w (.returned (.bool true)) wr := by
 obtain ⟨h', m', hb, _, _, _, e⟩ := H.st
 rw [Fo.drop_all _ _ hk] at e
 exact .inl ⟨h', m', e, rfl, hb⟩
theorem list_chk (B : Nat) : ∀ (s : Nat) (f : Fo), f.sz ≤ s → ListK B f := by
 intro s
 induction s with
 | zero =>
  intro f hs v w h m R hf hl hwf hb hB h0 h1 h2
  obtain rfl : f = .nil := by cases f with
   | nil => rfl
   | cons k n b r => simp [Fo.sz] at hs
  obtain ⟨⟨c0, c1⟩, _⟩ := hb.cells
  obtain ⟨a, cap, rfl⟩ := hf.val
  have HB := aS hb
  simp only [Fo.len]
  clear hs hl hwf hf hb
  go_enter Tryz.func150, Tryz.ntmps150
  go_wp2
  go_loop [14] (fun i => i = .int .i64 0) (fun _ => 0)
  case atStart => exact rfl
  case round =>
   subst hrel
   go_wp2
   go_ret
   exact ⟨.inl ⟨h, m, rfl, rfl, HB.out⟩, World.grownBy.refl _ _⟩
 | succ s ih =>
  intro f hs v w h m R hf hl hwf hb hB h0 h1 h2
  rcases hf.shape with ⟨a1, cap, rfl, hfn⟩ | ⟨g, o, cap, rfl, hq, hat⟩
  ·subst hfn
   exact ih .nil (by simp [Fo.sz]) _ w h m R hf hl hwf hb hB h0 h1 h2
  obtain ⟨⟨c0, c1⟩, _⟩ := hb.cells
  obtain ⟨n, hn⟩ : ∃ n, f.len = n := ⟨_, rfl⟩
  have hBw : B ≤ w.heap.size := by have := hb.lt; omega
  have hRw := hb.lt
  have hstart := aS (LK.mk (f := f) (h := h) (m := m) (B := B) (R := R) (w := w) (k := 0) ⟨h, m, hb, by omega, h1, h2, by cases f <;> rfl⟩ (World.grownBy.refl w _))
  rw [hn] at hl ⊢
  have HN : Hid (f.len = n) := hn
  have HI := aS ih
  have hgB : g < B := hq
  have Hat := aS hat
  have Hwf := aS hwf
  have HSZ := aS hs
  clear hn ih hat hwf hf hq hs hb
  go_enter Tryz.func150, Tryz.ntmps150
  go_wp2
  go_loopw [7, 14] (fun _ i wr => ∃ k : Nat, k ≤ n ∧ i = .int .i64 k ∧ LK f h m B R w k wr) (fun _ i _ => n - (intOf i).toNat)
  case atStart => exact ⟨0, by omega, rfl, hstart.out⟩
  case round =>
   obtain ⟨k, hk, rfl, hLK⟩ := hrel
   by_cases hlt : k < n
   ·obtain ⟨h', m', hb', hh1, hh2, hh3, hnd⟩ := hLK.st
    have hg := hLK.gr
    have hsz := hg.size
    have hfb : ∀ b, b < B → wr.heap[b]? = w.heap[b]? := fun b hb => hg.block b (by omega) (fun e => by injection e; omega)
    have hat' : fG (QB B) wr f g o := Hat.out.move (fun b o hq => ⟨hfb b hq, hq⟩) (hfb g hgB)
    obtain ⟨kk, nn, b, r, sv, e1, e2, e3, c0', c1', c2', hsv⟩ := hat'.at (i := k) (by rw [HN.out]; exact hlt)
    obtain ⟨hb1, hb2⟩ := Hwf.out.at e1
    have hbs := Fo.sz_blk e1
    have hbz : b.sz ≤ s := by have := HSZ.out; omega
    have hLb := HI.out b hbz
    rw [e1] at hnd
    have HND := aS hnd
    have HD := aS e2
    obtain ⟨a1, cap1, rfl⟩ := hsv.val
    have hgr : g < wr.heap.size := by omega
    have hB1 := (Below.refl wr.heap.size wr).alloc (Nat.le_refl _) (.cells #[.int .i64 kk, .int .i64 nn, .slice a1 b.len cap1] 230)
    have hbx := aA.new wr kk nn (.slice a1 b.len cap1)
    have hbS := hb'.step hB1
    have hRr : R < wr.heap.size := by omega
    have hw := word_any kk h' m' h R _ hbS (by omega) (by omega) (by omega) (by omega) h0
    have HW := aS hw
    have HX := aS hbx
    have HG := aS (eP hg (.cells #[.int .i64 kk, .int .i64 nn, .slice a1 b.len cap1] 230))
    have Hs : Hid (FS (QB B) (wr.alloc (.cells #[.int .i64 kk, .int .i64 nn, .slice a1 b.len cap1] 230)) (.slice a1 b.len cap1) b) := hsv.belowB (hB1.mono (by omega))
    have Hb2 := aS hb2
    have HLb := aS hLb
    clear e1 e2 e3 hat' hsv hB1 hbx hbS hw hnd hfb hLK hb' hb2 hLb hg
    go_wp2_with fail
    refine HW.out.mono ?_
    rintro e w1 (⟨hx1, rfl, rfl⟩ | ⟨hx1, rfl, hb2', hg2⟩)
    ·have HC : Hid (ListR f h m R w (.returned (.bool false)) (wr.alloc (.cells #[.int .i64 kk, .int .i64 nn, .slice a1 b.len cap1] 230))) := .inr ⟨by rw [HND.out]; exact nd_no1 hx1, rfl⟩
     clear hx1 c0' c1' c2'
     go_wp2
     go_ret
     exact ⟨HC.out, HG.out⟩
    ·have HG2 := aS (HG.out.trans hg2)
     have hbx2 := HX.out.grown hg2 (by omega)
     obtain ⟨d0, d1, d2⟩ := hbx2.cells
     by_cases hx2 : h' - tk kk + lv kk ≤ 16
     ·have hld := jQ kk
      have hs2 := hg2.size
      have hs3 : wr.heap.size + 1 ≤ w1.heap.size := by simpa using hs2
      have hbk := block_chk B b HLb.out _ w1 _ _ R (fs_grown Hs.out hg2 hB (by simp; omega)) hb1 Hb2.out hb2' hB (by omega) (by omega) (by omega)
      have HBK := aS hbk
      have hdx : decide (h' - tk kk + lv kk ≤ 16) = true := decide_eq_true hx2
      rw [hdx]
      have HX1 := aS hx1
      have HX2 := aS hx2
      clear hx1 hx2 hbk hbx2 hb2' hg2 c0' c1' c2' hdx
      go_wp2_with fail
      refine HBK.out.mono ?_
      rintro e w2 ⟨hr, hg3⟩
      have HG3 := aS (HG2.out.trans hg3)
      rcases hr with ⟨p, hn1, rfl, hb3⟩ | ⟨hn1, rfl⟩
      ·have hbd := oy _ _ _ _ _ _ hn1 (by omega) (by omega) (by have := HX2.out; omega)
       have HL : Hid (LK f h m B R w (k + 1) w2) := ⟨⟨_, p, hb3, by have := HX1.out; omega, by omega, by omega, by rw [HND.out, nd_mk HX1.out HX2.out hn1, HD.out]⟩, HG3.out⟩
       clear hn1 hb3 hg3 hbd d0 d1 d2
       go_wp2
       go_roundw
       case rel => exact ⟨k + 1, by omega, by go_num, HL.out⟩
       case measure => simp [intOf]; omega
      ·have HC : Hid (ListR f h m R w (.returned (.bool false)) w2) := .inr ⟨by rw [HND.out]; exact nd_no3 hn1, rfl⟩
       clear hn1 hg3 d0 d1 d2
       go_wp2
       go_ret
       exact ⟨HC.out, HG3.out⟩
     ·have hdx : decide (h' - tk kk + lv kk ≤ 16) = false := decide_eq_false hx2
      have HC : Hid (ListR f h m R w (.returned (.bool false)) w1) := .inr ⟨by rw [HND.out]; exact nd_no2 (by omega), rfl⟩
      rw [hdx]
      clear hx1 hx2 hbx2 hb2' hg2 hdx c0' c1' c2'
      go_wp2
      go_ret
      exact ⟨HC.out, HG2.out⟩
   ·have hlt' : n ≤ k := by omega
    have HC := aS (hLK.fin (by rw [HN.out]; exact hlt'))
    have HG := aS hLK.gr
    clear hLK
    go_wp2
    go_ret
    exact ⟨HC.out, HG.out⟩
def eu (f : Fo) : Int × Int × Int := if eZ f 0 = true ∧ eN f ≤ 128 then (match ll f with | some (l, p) => (l, p, 0) | none => (0, 0, 9)) else (0, 0, 1)
def nL (f : Fo) : Int := (eu f).1
def nPE (f : Fo) : Int := (eu f).2.1
def nE (f : Fo) : Int := (eu f).2.2
def cE (f : Fo) : Int := if nE f = 0 ∧ 0 < nL f then 9 else nE f
theorem iY {f : Fo} (h : ¬ May f) : eu f = (0, 0, 1) := if_neg h
theorem fZ {f : Fo} {l p : Int} (h : May f) (e : ll f = some (l, p)) : eu f = (l, p, 0) := by unfold eu; rw [if_pos (show eZ f 0 = true ∧ eN f ≤ 128 from h), e]
theorem ga {f : Fo} (h : May f) (e : ll f = none) : eu f = (0, 0, 9) := by unfold eu; rw [if_pos (show eZ f 0 = true ∧ eN f ≤ 128 from h), e]
def oC (f : Fo) (e : Ending) : Prop := e = .returned (.tuple #[.int .i64 (nL f), .int .i64 (nPE f), .int .i64 (nE f)])
theorem fJ {f : Fo} {l p c : Int} (h : eu f = (l, p, c)) : oC f (.returned (.tuple #[.int .i64 l, .int .i64 p, .int .i64 c])) := by unfold oC nL nPE nE; rw [h]
theorem gO (f : Fo) : (nE f = 0 ∧ 0 ≤ nL f ∧ nL f ≤ nPE f ∧ nPE f ≤ 16 ∧ May f ∧ ll f = some (nL f, nPE f)) ∨ (nE f = 1 ∧ nL f = 0 ∧ nPE f = 0 ∧ ¬ May f) ∨ (nE f = 9 ∧ nL f = 0 ∧ nPE f = 0 ∧ May f ∧ ll f = none) := by
 by_cases h : May f
 ·cases e : ll f with
  | none => have := ga h e; right; right; unfold nE nL nPE; rw [this]; exact ⟨rfl, rfl, rfl, h, rfl⟩
  | some x =>
   obtain ⟨l, p⟩ := x
   have hb := need0_bd e
   have := fZ h e
   left
   unfold nE nL nPE
   rw [this]
   exact ⟨rfl, hb.1, hb.2.1, hb.2.2, h, rfl⟩
 ·have := iY h
  right; left
  unfold nE nL nPE
  rw [this]
  exact ⟨rfl, rfl, rfl, h⟩
theorem need_any (f : Fo) (v : Value) (w : World) (h : FS QA w v f) (hl : f.len ≤ 3518437208780) (hwf : jo f) :
  Calls Tryz.prog 105 #[v] w fun e w' => oC f e ∧ Below w.heap.size w w' := by
 have Hc := aS (chk_any f v w h hl hwf)
 have Hf := aS h
 have Hwf := aS hwf
 obtain ⟨a, cap, rfl⟩ := h.val
 clear h hwf
 go_enter Tryz.func105, Tryz.ntmps105
 go_wp2_with (go_at_call 149; refine Hc.out.mono ?_)
 rintro e w1 ⟨hr, hb⟩
 have HB := aS hb
 rcases hr with ⟨hm, rfl⟩ | ⟨hm, rfl⟩
 ·have hb2 := (Below.refl w1.heap.size w1).alloc (Nat.le_refl _) (.cells #[.int .i64 0, .int .i64 0] 234)
  have hfs := (Hf.out.below hb).below hb2
  have hs1 := hb.size
  have hL := list_chk w1.heap.size f.sz f (Nat.le_refl _) _ _ 0 0 w1.heap.size (((Hf.out.below hb).toB).belowB hb2) hl Hwf.out (dS.new w1 0 0) (Nat.le_refl _) (by omega) (by omega) (by omega)
  have HL := aS hL
  have HM := aS hm
  clear hL hfs hb hb2 hm
  go_wp2_with (go_at_call 150; refine HL.out.mono ?_)
  rintro e w2 ⟨hr, hg⟩
  have hbel : Below w.heap.size w w2 := (HB.out.alloc hs1 _).grown hg (by simp; omega) (fun k hk => by injection hk; omega)
  have HBE := aS hbel
  clear hg hbel
  rcases hr with ⟨l, p, hn, rfl, hbs⟩ | ⟨hn, rfl⟩
  ·have HR := aS (fJ (fZ HM.out hn))
   obtain ⟨⟨c0, c1⟩, _⟩ := hbs.cells
   clear hn hbs
   go_wp2
   go_region
   go_wp2
   go_ret3
   exact ⟨HR.out, below_drewN HBE.out 1⟩
  ·have HR := aS (fJ (ga HM.out hn))
   clear hn
   go_wp2
   go_ret3
   exact ⟨HR.out, HBE.out⟩
 ·have HR := aS (fJ (iY hm))
  clear hm hb
  go_wp2
  go_ret3
  exact ⟨HR.out, HB.out⟩
theorem mJ (f : Fo) (v : Value) (w : World) (h : FS QA w v f) (hl : f.len ≤ 3518437208780) (hwf : jo f) :
  Calls Tryz.prog 61 #[v] w fun e w' => e = .returned (.int .i64 (cE f)) ∧ Below w.heap.size w w' := by
 have Hc := aS (need_any f v w h hl hwf)
 obtain ⟨a, cap, rfl⟩ := h.val
 unfold cE
 unfold oC at Hc
 have hcs := gO f
 generalize nE f = c at Hc hcs ⊢
 generalize nL f = l at Hc hcs ⊢
 generalize nPE f = p at Hc hcs ⊢
 clear h hwf
 rcases hcs with ⟨rfl, h1, h2, h3, _⟩ | ⟨rfl, rfl, rfl, _⟩ | ⟨rfl, rfl, rfl, _⟩
 ·by_cases h0 : 0 < l
  ·rw [if_pos ⟨rfl, h0⟩]
   go_enter Tryz.func61, Tryz.ntmps61
   go_wp2_with (go_at_call 105; refine Hc.out.mono ?_; rintro e w1 ⟨rfl, hb⟩)
   go_ret
   exact ⟨rfl, hb⟩
  ·rw [if_neg (fun h => h0 h.2)]
   go_enter Tryz.func61, Tryz.ntmps61
   go_wp2_with (go_at_call 105; refine Hc.out.mono ?_; rintro e w1 ⟨rfl, hb⟩)
   go_ret
   exact ⟨rfl, hb⟩
 all_goals
  rw [if_neg (fun h => by have := h.2; omega)]
  go_enter Tryz.func61, Tryz.ntmps61
  go_wp2_with (go_at_call 105; refine Hc.out.mono ?_; rintro e w1 ⟨rfl, hb⟩)
  go_ret
  exact ⟨rfl, hb⟩
end Go.Proofs.YtclcgakfmcofaaaGreatDoor
