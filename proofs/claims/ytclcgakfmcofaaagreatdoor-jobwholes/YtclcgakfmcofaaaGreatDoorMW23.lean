/- Texts laid together: LProg, LRCount, LROps, CRNeed, EROps, ERPop, EROp, EROpB, EROpC, EROpD, EROpE, EROpF, ERRun, ERFn. -/
import Derived.Test.YtclcgakfmcofaaaGreatDoorMW10
import Derived.Test.YtclcgakfmcofaaaGreatDoorMW12
import Derived.Test.YtclcgakfmcofaaaGreatDoorMW11
import Derived.StillTailTactics
import Derived.Deep.RegionHeld3
import Derived.Deep.AppendLies
import Derived.Test.YtclcgakfmcofaaaGreatDoorMW13
set_option linter.unusedVariables false
set_option maxRecDepth 100000
set_option linter.unusedSimpArgs false
set_option maxHeartbeats 4000000
namespace Go.Proofs.YtclcgakfmcofaaaGreatDoor
open Go.RowKit
theorem ir {s : ByteArray} {g : Fo} {ws : List (List UInt8)} {m : Nat} (h : cG s (.ok g ws m)) : May g ∧ WfN g ∧ g.len ≤ 3518437208780 ∧ jo g := by
 unfold cG at h
 split at h
 ·simp at h
 ·obtain ⟨fu, h⟩ := h
  obtain ⟨h1, h2, h3, h4, _⟩ := read_ok fu 0 _ 0 g ws m h (fun x hx => (jN _ [] (fun c hc => by cases hc) x hx).1) (by omega) (by omega)
  obtain ⟨h5, h6⟩ := jo.of_tot g 0 h1 (by omega)
  exact ⟨⟨h1, by omega⟩, h2, by omega, h6⟩
def RCR (f : Fo) (d a : Nat) (e : Ending) : Prop := ((eZ f d = true ∧ a + eN f ≤ 128) ∧ e = .returned (.tuple #[.int .i64 ((a + eN f : Nat) : Int), .bool true])) ∨ (¬ (eZ f d = true ∧ a + eN f ≤ 128) ∧ ∃ z, e = .returned (.tuple #[.int .i64 z, .bool false]))
theorem bt_take_le (i : Nat) (f : Fo) : bt (f.take i) ≤ bt f := by
 have := Fo.take_drop i f
 rw [show bt f = bt ((f.take i).app (f.drop i)) by rw [this], gM]
 omega
inductive Way (k n : Int) (b : Nat) : Prop
 | b1 (h : k < 1)
 | b2 (h : 30 < k)
 | b3 (h : k = 28) (h2 : n ≠ 0)
 | b4 (h : k = 29) (h2 : n ≠ 0)
 | b5 (h : 1 < k) (h2 : k ≤ 30) (h3 : k ≠ 28) (h4 : k ≠ 29) (h5 : n ≠ 0)
 | b6 (h : k = 1) (h2 : 0 < b)
 | b7 (h : 1 < k) (h2 : k ≤ 30) (h3 : k ≠ 28) (h4 : k ≠ 29) (h5 : n = 0) (h6 : 0 < b)
 | o1 (h : k = 1) (h2 : b = 0)
 | o2 (h : 1 < k) (h2 : k ≤ 30) (h3 : k ≠ 28) (h4 : k ≠ 29) (h5 : n = 0) (h6 : b = 0)
 | p1 (h : k = 28) (h2 : n = 0)
 | p2 (h : k = 29) (h2 : n = 0)
theorem way (k n : Int) (b : Nat) : Way k n b := by
 by_cases h1 : k < 1
 ·exact .b1 h1
 by_cases h2 : 30 < k
 ·exact .b2 h2
 by_cases h3 : k = 1
 ·by_cases h4 : b = 0
  ·exact .o1 h3 h4
  ·exact .b6 h3 (by omega)
 by_cases h4 : k = 28
 ·by_cases h5 : n = 0
  ·exact .p1 h4 h5
  ·exact .b3 h4 h5
 by_cases h5 : k = 29
 ·by_cases h6 : n = 0
  ·exact .p2 h5 h6
  ·exact .b4 h5 h6
 by_cases h6 : n = 0
 ·by_cases h7 : b = 0
  ·exact .o2 (by omega) (by omega) h4 h5 h6 h7
  ·exact .b7 (by omega) (by omega) h4 h5 h6 (by omega)
 ·exact .b5 (by omega) (by omega) h4 h5 h6
theorem hasB_no {k : Int} (h1 : k ≠ 28) (h2 : k ≠ 29) : bm k = false := by unfold bm; rw [beq_eq_false_iff_ne.2 h1, beq_eq_false_iff_ne.2 h2]; rfl
theorem rcount_sz : ∀ (s : Nat) (f : Fo) (v : Value) (w : World) (d a : Nat), f.sz ≤ s → FS QA w v f → f.len ≤ 3518437208780 → jo f → d ≤ 7 → a ≤ 128 →
  Calls Tryz.prog 192 #[v, .int .i64 d, .int .i64 a] w fun e w' => RCR f d a e ∧ Below w.heap.size w w' := by
 intro s
 induction s with
 | zero =>
  intro f v w d a hs h hl hwf hd ha
  obtain rfl : f = .nil := by cases f with
   | nil => rfl
   | cons k n b r => simp [Fo.sz] at hs
  obtain ⟨a1, cap, rfl⟩ := h.val
  simp only [Fo.len]
  by_cases hd6 : d ≤ 6
  ·have hdi : (d : Int) ≤ 6 := by omega
   have HC : Hid (RCR .nil d a (.returned (.tuple #[.int .i64 (a : Int), .bool true]))) := .inl ⟨⟨by simp [eZ, hd6], by simpa [eN] using ha⟩, by simp [eN]⟩
   clear hs hl hwf h
   go_enter Tryz.func192, Tryz.ntmps192
   go_wp2
   go_loop [2, 8] (fun n i => n = .int .i64 a ∧ i = .int .i64 0) (fun _ _ => 0)
   case atStart => exact ⟨rfl, rfl⟩
   case round =>
    obtain ⟨rfl, rfl⟩ := hrel
    go_wp2
    go_ret2
    exact ⟨HC.out, Below.refl _ _⟩
  ·have hdi : (6 : Int) < d := by omega
   have HC : Hid (RCR .nil d a (.returned (.tuple #[.int .i64 (a : Int), .bool false]))) := .inr ⟨fun hc => by simp [eZ] at hc; omega, _, rfl⟩
   clear hs hl hwf h
   go_enter Tryz.func192, Tryz.ntmps192
   go_wp2
   go_ret2
   exact ⟨HC.out, Below.refl _ _⟩
 | succ s ih =>
  intro f v w d a hs h hl hwf hd ha
  rcases h.shape with ⟨a1, cap, rfl, hf⟩ | ⟨g, o, cap, rfl, hq, hat⟩
  ·subst hf
   exact ih .nil _ w d a (by simp [Fo.sz]) h hl hwf hd ha
  obtain ⟨n, hn⟩ : ∃ n, f.len = n := ⟨_, rfl⟩
  rw [hn] at hl ⊢
  have HN : Hid (f.len = n) := hn
  have HI := cO ih
  have hgw : g < w.heap.size := hq
  have Hat := cO hat
  have Hwf := cO hwf
  by_cases hd6 : d ≤ 6
  ·have hdi : (d : Int) ≤ 6 := by omega
   clear hn ih h hat hwf
   go_enter Tryz.func192, Tryz.ntmps192
   go_wp2
   go_loopw [2, 8] (fun x i wr => ∃ (k z : Nat), k ≤ n ∧ i = .int .i64 k ∧ x = .int .i64 z ∧ z ≤ 128 ∧ Hid (z = a + k + bt (f.take k) ∧ dX (f.take k) d = true) ∧ Below w.heap.size w wr) (fun _ i _ => n - (intOf i).toNat)
   case atStart => exact ⟨0, a, by omega, rfl, rfl, ha, ⟨by cases f <;> rfl, by cases f <;> rfl⟩, Below.refl _ _⟩
   case round =>
    obtain ⟨k, z, hk, rfl, rfl, hz, HZ, hbel⟩ := hrel
    have hsz := hbel.size
    have hzi : (z : Int) ≤ 128 := by omega
    by_cases hlt : k < n
    ·by_cases hz8 : z = 128
     ·have HC : Hid (RCR f d a (.returned (.tuple #[.int .i64 129, .bool false]))) := .inr ⟨fun hc => by
       have := HZ.out
       have h1 := tot_bt f
       have h2 := bt_take_le k f
       have h3 := HN.out
       omega, _, rfl⟩
      subst hz8
      go_wp2
      go_ret2
      exact ⟨HC.out, hbel⟩
     have hz7 : (z : Int) < 128 := by omega
     have hat' : fG QA wr f g o := Hat.out.move (fun b o hq => ⟨hbel.block b hq, Nat.lt_of_lt_of_le hq hsz⟩) (hbel.block g hgw)
     obtain ⟨kk, nn, b, r, sv, e1, e2, e3, c0, c1, c2, hsv⟩ := hat'.at (i := k) (by rw [HN.out]; exact hlt)
     obtain ⟨hb1, hb2⟩ := Hwf.out.at e1
     have hbs := Fo.sz_blk e1
     have HT := cO e3
     have HD := cO e1
     have Hs : Hid (FS QA wr sv b) := hsv
     obtain ⟨a1, cap1, rfl⟩ := hsv.val
     have hgr : g < wr.heap.size := by omega
     have hB1 := (Below.refl wr.heap.size wr).alloc (Nat.le_refl _) (.cells #[.int .i64 kk, .int .i64 nn, .slice a1 b.len cap1] 230)
     have HB1 := cO hB1
     have HBX := cO (hbel.trans (hB1.mono hsz))
     obtain ⟨blen, hblen⟩ : ∃ q, b.len = q := ⟨_, rfl⟩
     have HBL := cO hblen
     have hWay := way kk nn blen
     rw [hblen] at hb1 c2 HB1 HBX Hs
     clear e1 e2 e3 hat' hsv hB1 hblen
     cases hWay with
     | b1 h =>
      have HC : Hid (RCR f d a (.returned (.tuple #[.int .i64 ((z : Int) + 1), .bool false]))) := .inr ⟨eR HD.out (.inl (by
       have hbl := HBL.out
       simp [ox, bQ]; omega)), _, rfl⟩
      have e28 : (kk == 28) = false := beq_eq_false_iff_ne.2 (by omega)
      have e29 : (kk == 29) = false := beq_eq_false_iff_ne.2 (by omega)
      go_wp2
      go_ret2
      exact ⟨HC.out, HBX.out⟩
     | b2 h =>
      have HC : Hid (RCR f d a (.returned (.tuple #[.int .i64 ((z : Int) + 1), .bool false]))) := .inr ⟨eR HD.out (.inl (by
       have hbl := HBL.out
       simp [ox, bQ]; omega)), _, rfl⟩
      have e28 : (kk == 28) = false := beq_eq_false_iff_ne.2 (by omega)
      have e29 : (kk == 29) = false := beq_eq_false_iff_ne.2 (by omega)
      have i1 : (1 : Int) ≤ kk := by omega
      go_wp2
      go_ret2
      exact ⟨HC.out, HBX.out⟩
     | b3 h h2 =>
      have HC : Hid (RCR f d a (.returned (.tuple #[.int .i64 ((z : Int) + 1), .bool false]))) := .inr ⟨eR HD.out (.inl (by
       have hbl := HBL.out
       subst h; simp [ox, bQ, h2])), _, rfl⟩
      subst h
      have n0 : (nn == 0) = false := beq_eq_false_iff_ne.2 h2
      go_wp2
      go_ret2
      exact ⟨HC.out, HBX.out⟩
     | b4 h h2 =>
      have HC : Hid (RCR f d a (.returned (.tuple #[.int .i64 ((z : Int) + 1), .bool false]))) := .inr ⟨eR HD.out (.inl (by
       have hbl := HBL.out
       subst h; simp [ox, bQ, h2])), _, rfl⟩
      subst h
      have n0 : (nn == 0) = false := beq_eq_false_iff_ne.2 h2
      go_wp2
      go_ret2
      exact ⟨HC.out, HBX.out⟩
     | b5 h h2 h3 h4 h5 =>
      have HC : Hid (RCR f d a (.returned (.tuple #[.int .i64 ((z : Int) + 1), .bool false]))) := .inr ⟨eR HD.out (.inl (by
       have hbl := HBL.out
       have : kk ≠ 1 := by omega
       simp [ox, bQ, h5, this])), _, rfl⟩
      have e1 : (kk == 1) = false := beq_eq_false_iff_ne.2 (by omega)
      have e28 : (kk == 28) = false := beq_eq_false_iff_ne.2 h3
      have e29 : (kk == 29) = false := beq_eq_false_iff_ne.2 h4
      have i1 : (1 : Int) ≤ kk := by omega
      have n0 : (nn == 0) = false := beq_eq_false_iff_ne.2 h5
      go_wp2
      go_ret2
      exact ⟨HC.out, HBX.out⟩
     | b6 h h2 =>
      have HC : Hid (RCR f d a (.returned (.tuple #[.int .i64 ((z : Int) + 1), .bool false]))) := .inr ⟨eR HD.out (.inl (by
       have hbl := HBL.out
       subst h; have : b.len ≠ 0 := by omega
       simp [ox, bQ, bm, this])), _, rfl⟩
      subst h
      have hbi : (0 : Int) < (blen : Int) := by omega
      go_wp2
      go_ret2
      exact ⟨HC.out, HBX.out⟩
     | b7 h h2 h3 h4 h5 h6 =>
      have HC : Hid (RCR f d a (.returned (.tuple #[.int .i64 ((z : Int) + 1), .bool false]))) := .inr ⟨eR HD.out (.inl (by
       have hbl := HBL.out
       have : b.len ≠ 0 := by omega
       simp [ox, bQ, hasB_no h3 h4, this])), _, rfl⟩
      have e1 : (kk == 1) = false := beq_eq_false_iff_ne.2 (by omega)
      have e28 : (kk == 28) = false := beq_eq_false_iff_ne.2 h3
      have e29 : (kk == 29) = false := beq_eq_false_iff_ne.2 h4
      have i1 : (1 : Int) ≤ kk := by omega
      subst h5
      have hbi : (0 : Int) < (blen : Int) := by omega
      go_wp2
      go_ret2
      exact ⟨HC.out, HBX.out⟩
     | o1 h h2 =>
      have HZ2 : Hid (z + 1 = a + (k + 1) + bt (f.take (k + 1)) ∧ dX (f.take (k + 1)) d = true) := by
       have := HZ.out
       have hbl := HBL.out
       unfold Hid
       rw [HT.out, gM, eQ]
       subst h; have hb0 : b.len = 0 := by omega
       simp [bt, dX, ox, bQ, bm, this.2, hb0]
       omega
      subst h
      subst h2
      go_wp2
      go_roundw
      case rel => exact ⟨k + 1, z + 1, by omega, by go_num, by go_num, by omega, HZ2, HBX.out⟩
      case measure => simp [intOf]; omega
     | o2 h h2 h3 h4 h5 h6 =>
      have HZ2 : Hid (z + 1 = a + (k + 1) + bt (f.take (k + 1)) ∧ dX (f.take (k + 1)) d = true) := by
       have := HZ.out
       have hbl := HBL.out
       unfold Hid
       rw [HT.out, gM, eQ]
       have hb0 : b.len = 0 := by omega
       have hk1 : 1 ≤ kk := by omega
       simp [bt, dX, ox, bQ, hasB_no h3 h4, this.2, hb0, h5, hk1, h2]
       omega
      have e1 : (kk == 1) = false := beq_eq_false_iff_ne.2 (by omega)
      have e28 : (kk == 28) = false := beq_eq_false_iff_ne.2 h3
      have e29 : (kk == 29) = false := beq_eq_false_iff_ne.2 h4
      have i1 : (1 : Int) ≤ kk := by omega
      subst h5
      subst h6
      go_wp2
      go_roundw
      case rel => exact ⟨k + 1, z + 1, by omega, by go_num, by go_num, by omega, HZ2, HBX.out⟩
      case measure => simp [intOf]; omega
     | p1 h h2 =>
      subst h
      subst h2
      have hfs1 := Hs.out.below HB1.out
      have hc := HI.out b _ _ (d + 1) (z + 1) (by omega) hfs1 (by rw [HBL.out]; exact hb1) hb2 (by omega) (by omega)
      rw [show ((d + 1 : Nat) : Int) = (d : Int) + 1 by omega, show ((z + 1 : Nat) : Int) = (z : Int) + 1 by omega] at hc
      have Hc := cO hc
      clear hc hfs1
      have hdi2 : (0 : Int) ≤ d := by omega
      go_wp2_with (go_at_call 192; refine Hc.out.mono ?_)
      rintro e w2 ⟨hcr, hb2'⟩
      have HB3 := cO (HBX.out.trans (hb2'.mono (by simp; omega)))
      rcases hcr with ⟨⟨hk1, hk2⟩, rfl⟩ | ⟨hk1, zz, rfl⟩
      ·have HZ2 : Hid (z + 1 + eN b = a + (k + 1) + bt (f.take (k + 1)) ∧ dX (f.take (k + 1)) d = true) := by
        have := HZ.out
        have hbl := HBL.out
        unfold Hid
        rw [HT.out, gM, eQ]
        simp [bt, dX, ox, bQ, bm, this.2, hk1]
        omega
       clear hk1 hb2'
       go_wp2
       go_roundw
       case rel => exact ⟨k + 1, z + 1 + eN b, by omega, by go_num, rfl, hk2, HZ2, HB3.out⟩
       case measure => simp [intOf]; omega
      ·have HC : Hid (RCR f d a (.returned (.tuple #[.int .i64 zz, .bool false]))) := .inr ⟨eR HD.out (by
        have := HZ.out
        have hnn := HN.out
        by_cases hof : eZ b (d + 1) = true
        ·right
         have : ¬ z + 1 + eN b ≤ 128 := fun h => hk1 ⟨hof, h⟩
         simp [bm]
         omega
        ·left
         simp [ox, bm, hof]), _, rfl⟩
       clear hk1 hb2'
       go_wp2
       go_ret2
       exact ⟨HC.out, HB3.out⟩
     | p2 h h2 =>
      subst h
      subst h2
      have hfs1 := Hs.out.below HB1.out
      have hc := HI.out b _ _ (d + 1) (z + 1) (by omega) hfs1 (by rw [HBL.out]; exact hb1) hb2 (by omega) (by omega)
      rw [show ((d + 1 : Nat) : Int) = (d : Int) + 1 by omega, show ((z + 1 : Nat) : Int) = (z : Int) + 1 by omega] at hc
      have Hc := cO hc
      clear hc hfs1
      have hdi2 : (0 : Int) ≤ d := by omega
      go_wp2_with (go_at_call 192; refine Hc.out.mono ?_)
      rintro e w2 ⟨hcr, hb2'⟩
      have HB3 := cO (HBX.out.trans (hb2'.mono (by simp; omega)))
      rcases hcr with ⟨⟨hk1, hk2⟩, rfl⟩ | ⟨hk1, zz, rfl⟩
      ·have HZ2 : Hid (z + 1 + eN b = a + (k + 1) + bt (f.take (k + 1)) ∧ dX (f.take (k + 1)) d = true) := by
        have := HZ.out
        have hbl := HBL.out
        unfold Hid
        rw [HT.out, gM, eQ]
        simp [bt, dX, ox, bQ, bm, this.2, hk1]
        omega
       clear hk1 hb2'
       go_wp2
       go_roundw
       case rel => exact ⟨k + 1, z + 1 + eN b, by omega, by go_num, rfl, hk2, HZ2, HB3.out⟩
       case measure => simp [intOf]; omega
      ·have HC : Hid (RCR f d a (.returned (.tuple #[.int .i64 zz, .bool false]))) := .inr ⟨eR HD.out (by
        have := HZ.out
        have hnn := HN.out
        by_cases hof : eZ b (d + 1) = true
        ·right
         have : ¬ z + 1 + eN b ≤ 128 := fun h => hk1 ⟨hof, h⟩
         simp [bm]
         omega
        ·left
         simp [ox, bm, hof]), _, rfl⟩
       clear hk1 hb2'
       go_wp2
       go_ret2
       exact ⟨HC.out, HB3.out⟩
    ·have hke : k = n := by omega
     have HC : Hid (RCR f d a (.returned (.tuple #[.int .i64 (z : Int), .bool true]))) := by
      have := HZ.out
      have hnn := HN.out
      have hbt : bt (f.take k) = bt f := by rw [hke, ← hnn, Fo.take_all _ f (Nat.le_refl _)]
      have hal : dX f d = true := by have := this.2; rw [hke, ← hnn, Fo.take_all _ f (Nat.le_refl _)] at this; exact this
      have ht := tot_bt f
      refine .inl ⟨⟨by rw [okF_all, hal]; simp [hd6], by omega⟩, ?_⟩
      have : z = a + eN f := by omega
      rw [this]
     have hlt' : n ≤ k := by omega
     clear hke
     go_wp2
     go_ret2
     exact ⟨HC.out, hbel⟩
  ·have HC : Hid (RCR f d a (.returned (.tuple #[.int .i64 (a : Int), .bool false]))) := .inr ⟨fun hc => hd6 (okF_deep hc.1), _, rfl⟩
   have hdi : (6 : Int) < d := by omega
   clear hn ih h hat hwf
   go_enter Tryz.func192, Tryz.ntmps192
   go_wp2
   go_ret2
   exact ⟨HC.out, Below.refl _ _⟩
def OpsR (f : Fo) (e : Ending) : Prop := (May f ∧ e = .returned (.tuple #[.int .i64 (eN f : Int), .bool true])) ∨ (¬ May f ∧ ∃ z, e = .returned (.tuple #[.int .i64 z, .bool false]))
theorem rops_any (f : Fo) (v : Value) (w : World) (h : FS QA w v f) (hl : f.len ≤ 3518437208780) (hwf : jo f) :
  Calls Tryz.prog 154 #[v] w fun e w' => OpsR f e ∧ Below w.heap.size w w' := by
 have Hc := cO (rcount_sz f.sz f v w 0 0 (Nat.le_refl _) h hl hwf (by omega) (by omega))
 rw [show ((0 : Nat) : Int) = 0 from rfl] at Hc
 obtain ⟨a, cap, rfl⟩ := h.val
 clear h hl hwf
 go_enter Tryz.func154, Tryz.ntmps154
 go_wp2_with (go_at_call 192; refine Hc.out.mono ?_)
 rintro e w1 ⟨hr, hb⟩
 have HB := cO hb
 clear hb
 rcases hr with ⟨⟨h1, h2⟩, rfl⟩ | ⟨h1, z, rfl⟩
 ·have HR : Hid (OpsR f (.returned (.tuple #[.int .i64 ((0 + eN f : Nat) : Int), .bool true]))) := .inl ⟨⟨h1, by omega⟩, by rw [Nat.zero_add]⟩
  generalize ((0 + eN f : Nat) : Int) = z at HR ⊢
  clear h1 h2
  go_wp2
  go_ret2
  exact ⟨HR.out, HB.out⟩
 ·have HR : Hid (OpsR f (.returned (.tuple #[.int .i64 z, .bool false]))) := .inr ⟨fun h => h1 ⟨h.1, by have := h.2; omega⟩, z, rfl⟩
  clear h1
  go_wp2
  go_ret2
  exact ⟨HR.out, HB.out⟩
theorem rtakes_any (k : Int) (w : World) (h1 : 1 ≤ k) (h30 : k ≤ 30) : Calls Tryz.prog 193 #[.int .i64 k] w fun e w' => e = .returned (.tuple #[.int .i64 (tk k), .int .i64 (lv k)]) ∧ w' = w := by
 by_cases a1 : k ≤ 4
 ·have e : tk k = 0 ∧ lv k = 1 := by unfold tk lv; split <;> split <;> omega
  rw [e.1, e.2]
  clear e
  go_enter Tryz.func193, Tryz.ntmps193
  go_wp2
  go_ret2
  exact ⟨rfl, rfl⟩
 have b1 : 5 ≤ k := by omega
 by_cases a2 : k ≤ 17
 ·have e : tk k = 2 ∧ lv k = 1 := by unfold tk lv; rw [if_neg a1, if_pos a2, if_pos (by omega)]; exact ⟨rfl, rfl⟩
  rw [e.1, e.2]
  clear e
  go_enter Tryz.func193, Tryz.ntmps193
  go_wp2
  go_ret2
  exact ⟨rfl, rfl⟩
 have b2 : 18 ≤ k := by omega
 by_cases a3 : k ≤ 24
 ·have e : tk k = 1 ∧ lv k = 1 := by unfold tk lv; rw [if_neg a1, if_neg a2, if_pos (by omega), if_pos a3]; exact ⟨rfl, rfl⟩
  rw [e.1, e.2]
  clear e
  go_enter Tryz.func193, Tryz.ntmps193
  go_wp2
  go_ret2
  exact ⟨rfl, rfl⟩
 have b3 : 25 ≤ k := by omega
 have hk : k = 25 ∨ k = 26 ∨ k = 27 ∨ k = 28 ∨ k = 29 ∨ k = 30 := by omega
 clear h1 h30 a1 a2 a3 b1 b2 b3
 rcases hk with rfl | rfl | rfl | rfl | rfl | rfl
 all_goals
  go_enter Tryz.func193, Tryz.ntmps193
  go_wp2
  go_ret2
  exact ⟨rfl, rfl⟩
def RNR (f : Fo) (h fl m : Int) (e : Ending) : Prop :=
 (∃ l p, nd f h fl m = some (l, p) ∧ e = .returned (.tuple #[.int .i64 l, .int .i64 p, .bool true])) ∨ (nd f h fl m = none ∧ e = .returned (.tuple #[.int .i64 0, .int .i64 0, .bool false]))
def RNL (f : Fo) (h fl m : Int) (k : Nat) (h' m' : Int) : Prop := nd f h fl m = nd (f.drop k) h' fl m'
theorem rneed_sz : ∀ (s : Nat) (f : Fo) (v : Value) (w : World) (h fl m : Int) (d : Nat), f.sz ≤ s → FS QA w v f → f.len ≤ 3518437208780 → jo f → eZ f d = true → 0 ≤ fl → fl ≤ h → h ≤ m → m ≤ 16 →
  Calls Tryz.prog 155 #[v, .int .i64 h, .int .i64 fl, .int .i64 m] w fun e w' => RNR f h fl m e ∧ w' = w := by
 intro s
 induction s with
 | zero =>
  intro f v w h fl m d hs hf hl hwf hok h0 h1 h2 h3
  obtain rfl : f = .nil := by cases f with
   | nil => rfl
   | cons k n b r => simp [Fo.sz] at hs
  obtain ⟨a, cap, rfl⟩ := hf.val
  simp only [Fo.len]
  clear hs hl hwf hf hok
  go_enter Tryz.func155, Tryz.ntmps155
  go_wp2
  go_loop [1, 3, 11] (fun x y i => x = .int .i64 h ∧ y = .int .i64 m ∧ i = .int .i64 0) (fun _ _ _ => 0)
  case atStart => exact ⟨rfl, rfl, rfl⟩
  case round =>
   obtain ⟨rfl, rfl, rfl⟩ := hrel
   go_wp2
   go_ret3
   exact ⟨.inl ⟨h, m, rfl, rfl⟩, rfl⟩
 | succ s ih =>
  intro f v w h fl m d hs hf hl hwf hok h0 h1 h2 h3
  rcases hf.shape with ⟨a1, cap, rfl, hfn⟩ | ⟨g, o, cap, rfl, hq, hat⟩
  ·subst hfn
   exact ih .nil _ w h fl m d (by simp [Fo.sz]) hf hl hwf hok h0 h1 h2 h3
  obtain ⟨n, hn⟩ : ∃ n, f.len = n := ⟨_, rfl⟩
  rw [hn] at hl ⊢
  have HN : Hid (f.len = n) := hn
  have HI := aS ih
  have Hat := aS hat
  have Hwf := aS hwf
  have HSZ := aS hs
  have HOK := aS hok
  have hstart : Hid (RNL f h fl m 0 h m) := by unfold Hid RNL; cases f <;> rfl
  clear hn ih hat hwf hf hq hs hok
  go_enter Tryz.func155, Tryz.ntmps155
  go_wp2
  go_loop [1, 3, 11] (fun x y i => ∃ (k : Nat) (h' m' : Int), k ≤ n ∧ i = .int .i64 k ∧ x = .int .i64 h' ∧ y = .int .i64 m' ∧ fl ≤ h' ∧ h' ≤ m' ∧ m' ≤ 16 ∧ Hid (RNL f h fl m k h' m')) (fun _ _ i => n - (intOf i).toNat)
  case atStart => exact ⟨0, h, m, by omega, rfl, rfl, rfl, h1, h2, h3, hstart⟩
  case round =>
   obtain ⟨k, h', m', hk, rfl, rfl, rfl, hh1, hh2, hh3, HL⟩ := hrel
   by_cases hlt : k < n
   ·obtain ⟨kk, nn, b, r, sv, e1, e2, e3, c0, c1, c2, hsv⟩ := Hat.out.at (i := k) (by rw [HN.out]; exact hlt)
    obtain ⟨hb1, hb2⟩ := Hwf.out.at e1
    have hbs := Fo.sz_blk e1
    have hbz : b.sz ≤ s := by have := HSZ.out; omega
    obtain ⟨hal, hbo⟩ := mI HOK.out e1
    have hkb := fH hal
    have HND : Hid (nd f h fl m = nd (.cons kk nn b r) h' fl m') := by rw [← e1]; exact HL.out
    have HD := aS e2
    have Ht := aS (rtakes_any kk w hkb.1 hkb.2)
    have htd := tk_bd kk
    have hld := jQ kk
    have HE : Hid (tk kk = tk kk ∧ lv kk = lv kk) := ⟨rfl, rfl⟩
    obtain ⟨t, ht⟩ : ∃ t, tk kk = t := ⟨_, rfl⟩
    obtain ⟨u, hu⟩ : ∃ u, lv kk = u := ⟨_, rfl⟩
    rw [ht] at htd
    rw [hu] at hld
    rw [ht, hu] at Ht
    have HT := aS ht
    have HU := aS hu
    obtain ⟨a1, cap1, rfl⟩ := hsv.val
    have HSV := aS hsv
    have HAL := aS hal
    have HBO := aS hbo
    have HKB := aS hkb
    clear e1 e2 e3 hsv hal hbo ht hu HE hkb HL
    by_cases hx1 : h' - t < fl
    ·have HC : Hid (RNR f h fl m (.returned (.tuple #[.int .i64 0, .int .i64 0, .bool false]))) := .inr ⟨by rw [HND.out]; exact nd_no1 (by rw [HT.out]; exact hx1), rfl⟩
     go_wp2_with (go_at_call 193; refine Ht.out.mono ?_; rintro e w' ⟨rfl, rfl⟩)
     go_ret3
     exact ⟨HC.out, rfl⟩
    have hx1' : fl ≤ h' - t := by omega
    have HX1 := aS hx1'
    by_cases hx2 : 16 < h' - t + u
    ·have HC : Hid (RNR f h fl m (.returned (.tuple #[.int .i64 0, .int .i64 0, .bool false]))) := .inr ⟨by rw [HND.out]; exact nd_no2 (by rw [HT.out, HU.out]; exact hx2), rfl⟩
     go_wp2_with (go_at_call 193; refine Ht.out.mono ?_; rintro e w' ⟨rfl, rfl⟩)
     all_goals
      go_ret3
      exact ⟨HC.out, rfl⟩
    have hx2' : h' - t + u ≤ 16 := by omega
    have HX2 := aS hx2'
    have hMx : (m' < h' - t + u ∧ max m' (h' - t + u) = h' - t + u) ∨ (h' - t + u ≤ m' ∧ max m' (h' - t + u) = m') := by omega
    clear hx1 hx2
    cases hbk : bm kk with
    | false =>
     have e28 : (kk == 28) = false := by unfold bm at hbk; exact (Bool.or_eq_false_iff.1 hbk).1
     have e29 : (kk == 29) = false := by unfold bm at hbk; exact (Bool.or_eq_false_iff.1 hbk).2
     have HL2 : Hid (RNL f h fl m (k + 1) (h' - t + u) (max m' (h' - t + u))) := by
      unfold Hid RNL
      rw [HND.out, HD.out, eM HAL.out hbk, nd_mk (m2 := max m' (h' - t + u)) (by rw [HT.out]; exact HX1.out) (by rw [HT.out, HU.out]; exact HX2.out) (by rw [HT.out, HU.out]; rfl), HT.out, HU.out]
     clear hbk
     rcases hMx with ⟨hM, hMe⟩ | ⟨hM, hMe⟩
     all_goals
      rw [hMe] at HL2
      clear hMe
      go_wp2_with (go_at_call 193; refine Ht.out.mono ?_; rintro e w' ⟨rfl, rfl⟩)
      go_round
      case rel => exact ⟨k + 1, _, _, by omega, by go_num, rfl, rfl, by omega, by omega, by omega, HL2⟩
      case measure => simp [intOf]; omega
    | true =>
     have hk2 : kk = 28 ∨ kk = 29 := by unfold bm at hbk; simpa using hbk
     have hIH := HI.out b _ w (h' - t + u) (h' - t + u) (max m' (h' - t + u)) (d + 1) hbz HSV.out hb1 hb2 (HBO.out hbk) (by omega) (Int.le_refl _) (by omega) (by omega)
     have hno : ∀ x, nd b (h' - t + u) (h' - t + u) (max m' (h' - t + u)) = x → (∀ p, x = some (h' - t + u, p) → nd f h fl m = nd (f.drop (k + 1)) (h' - t + u) fl p) ∧ ((∀ p, x ≠ some (h' - t + u, p)) → nd f h fl m = none) := by
      intro x hx
      refine ⟨fun p hp => ?_, fun hp => ?_⟩
      ·rw [hp] at hx
       rw [HND.out, HD.out, nd_mk (m2 := p) (by rw [HT.out]; exact HX1.out) (by rw [HT.out, HU.out]; exact HX2.out) (by rw [HT.out, HU.out]; exact hx), HT.out, HU.out]
      ·rw [HND.out]
       refine nd_no3 fun p hq => ?_
       rw [HT.out, HU.out, hx] at hq
       exact hp p hq
     have hbd := fun l p hn => oy b (h' - t + u) (h' - t + u) (max m' (h' - t + u)) l p hn (Int.le_refl _) (by omega) (by omega)
     have HNO := aS hno
     have HBD := aS hbd
     have HC0 := aS hIH
     clear hno hbd hIH hbk
     rcases hk2 with rfl | rfl <;> rcases hMx with ⟨hM, hMe⟩ | ⟨hM, hMe⟩
     all_goals
      rw [hMe] at HNO HBD HC0
      clear hMe
      go_wp2_with (first | (go_at_call 193; refine Ht.out.mono ?_; rintro e w' ⟨rfl, rfl⟩) | (go_at_call 155; refine HC0.out.mono ?_))
      rintro e w' ⟨hr, rfl⟩
      rcases hr with ⟨l, p, hn, rfl⟩ | ⟨hn, rfl⟩
      ·have hb := HBD.out l p hn
       by_cases hle : l = h' - t + u
       ·subst hle
        have HL2 : Hid (RNL f h fl m (k + 1) (h' - t + u) p) := (HNO.out _ hn).1 p rfl
        clear hn
        go_wp2
        go_round
        case rel => exact ⟨k + 1, _, _, by omega, by go_num, rfl, rfl, by omega, by omega, by omega, HL2⟩
        case measure => simp [intOf]; omega
       ·have HC : Hid (RNR f h fl m (.returned (.tuple #[.int .i64 0, .int .i64 0, .bool false]))) := .inr ⟨(HNO.out _ hn).2 (fun q hq => hle (by injection hq with hq; injection hq)), rfl⟩
        have hne : (l == h' - t + u) = false := beq_eq_false_iff_ne.2 hle
        clear hn hle
        go_wp2
        go_ret3
        exact ⟨HC.out, rfl⟩
      ·have HC : Hid (RNR f h fl m (.returned (.tuple #[.int .i64 0, .int .i64 0, .bool false]))) := .inr ⟨(HNO.out _ hn).2 (fun q hq => by cases hq), rfl⟩
       clear hn
       go_wp2
       go_ret3
       exact ⟨HC.out, rfl⟩
   ·have hlt' : n ≤ k := by omega
    have HC : Hid (RNR f h fl m (.returned (.tuple #[.int .i64 h', .int .i64 m', .bool true]))) := by
     have := HL.out
     unfold RNL at this
     rw [Fo.drop_all _ _ (by rw [HN.out]; exact hlt')] at this
     exact .inl ⟨h', m', this, rfl⟩
    go_wp2
    go_ret3
    exact ⟨HC.out, rfl⟩
theorem rneed_any (f : Fo) (v : Value) (w : World) (h : FS QA w v f) (hl : f.len ≤ 3518437208780) (hwf : jo f) :
  Calls Tryz.prog 110 #[v] w fun e w' => oC f e ∧ Below w.heap.size w w' := by
 have Hc := aS (rops_any f v w h hl hwf)
 have Hf := aS h
 have Hwf := aS hwf
 obtain ⟨a, cap, rfl⟩ := h.val
 clear h hwf
 go_enter Tryz.func110, Tryz.ntmps110
 go_wp2_with (go_at_call 154; refine Hc.out.mono ?_)
 rintro e w1 ⟨hr, hb⟩
 have HB := aS hb
 rcases hr with ⟨hm, rfl⟩ | ⟨hm, z, rfl⟩
 ·have HM := aS hm
  have HN := aS (rneed_sz f.sz f _ w1 0 0 0 0 (Nat.le_refl _) (Hf.out.below hb) hl Hwf.out hm.1 (by omega) (by omega) (by omega) (by omega))
  clear hm hb
  go_wp2_with (go_at_call 155; refine HN.out.mono ?_)
  rintro e w' ⟨hr, rfl⟩
  rcases hr with ⟨l, p, hn, rfl⟩ | ⟨hn, rfl⟩
  ·have HR := aS (fJ (fZ HM.out hn))
   clear hn
   go_wp2
   go_ret3
   exact ⟨HR.out, HB.out⟩
  ·have HR := aS (fJ (ga HM.out hn))
   clear hn
   go_wp2
   go_ret3
   exact ⟨HR.out, HB.out⟩
 ·have HR := aS (fJ (iY hm))
  clear hm hb
  go_wp2
  go_ret3
  exact ⟨HR.out, HB.out⟩
theorem ly (f : Fo) (v : Value) (w : World) (h : FS QA w v f) (hl : f.len ≤ 3518437208780) (hwf : jo f) :
  Calls Tryz.prog 64 #[v] w fun e w' => e = .returned (.int .i64 (cE f)) ∧ Below w.heap.size w w' := by
 have Hc := aS (rneed_any f v w h hl hwf)
 obtain ⟨a, cap, rfl⟩ := h.val
 unfold cE
 unfold oC at Hc
 have hcs := gO f
 generalize nE f = c at Hc hcs ⊢
 generalize nL f = l at Hc hcs ⊢
 generalize nPE f = p at Hc hcs ⊢
 clear h hwf
 rcases hcs with ⟨rfl, h1, h2, h3, _⟩ | ⟨rfl, rfl, rfl, _⟩ | ⟨rfl, rfl, rfl, _⟩
 ·by_cases h0 : 0 < l
  ·rw [if_pos ⟨rfl, h0⟩]
   go_enter Tryz.func64, Tryz.ntmps64
   go_wp2_with (go_at_call 110; refine Hc.out.mono ?_; rintro e w1 ⟨rfl, hb⟩)
   go_ret
   exact ⟨rfl, hb⟩
  ·rw [if_neg (fun h => h0 h.2)]
   go_enter Tryz.func64, Tryz.ntmps64
   go_wp2_with (go_at_call 110; refine Hc.out.mono ?_; rintro e w1 ⟨rfl, hb⟩)
   go_ret
   exact ⟨rfl, hb⟩
 all_goals
  rw [if_neg (fun h => by have := h.2; omega)]
  go_enter Tryz.func64, Tryz.ntmps64
  go_wp2_with (go_at_call 110; refine Hc.out.mono ?_; rintro e w1 ⟨rfl, hb⟩)
  go_ret
  exact ⟨rfl, hb⟩
theorem dU {p : Prop} (h : p) : Hid p := h
theorem kM (b : Bool) (w : World) : Calls Tryz.prog 211 #[.bool b] w fun e w' => e = .returned (.int .i64 (tru b)) ∧ w' = w := by
 cases b
 all_goals
  go_enter Tryz.func211, Tryz.ntmps211
  go_wp2
  go_ret
  exact ⟨rfl, rfl⟩
theorem minus_one (n : Int) : wrap64 (IntKind.u64.wrap (18446744073709551615 - IntKind.u64.wrap n + 1)) = wrap64 (n.tdiv (-1)) := by
 rw [Int.tdiv_neg, Int.tdiv_one]
 unfold wrap64
 rw [IntKind.wrap_u64, IntKind.wrap_u64]
 omega
def dvE (z y : Int) (w : World) (e : Ending) (w' : World) : Prop := e = .returned (.tuple #[.int .i64 z, .int .i64 y]) ∧ ∃ q, w' = w.drewN q
theorem be (n m : Int) (w : World) : Calls Tryz.prog 242 #[.int .i64 n, .int .i64 m] w fun e w' => dvE (bL 8 n m) (bL 9 n m) w e w' := by
 rw [show bL 8 n m = (if m = 0 then 0 else wrap64 (n.tdiv m)) from rfl, show bL 9 n m = (if m = 0 then 0 else n.tmod m) from rfl]
 by_cases h : m = 0
 ·subst h
  simp only [if_true]
  go_enter Tryz.func242, Tryz.ntmps242
  go_wp2
  go_ret2
  exact ⟨rfl, 0, rfl⟩
 ·rw [if_neg h, if_neg h]
  have hne : (m == 0) = false := beq_eq_false_iff_ne.2 h
  by_cases h1 : m = -1
  ·subst h1
   have hx := lT (IntKind.u64.wrap n) (by rw [IntKind.wrap_u64]; omega) (by rw [IntKind.wrap_u64]; omega)
   have H : Hid (wrap64 (IntKind.u64.wrap (18446744073709551615 - IntKind.u64.wrap n + 1)) = wrap64 (n.tdiv (-1))) := minus_one n
   have H2 : Hid (n.tmod (-1) = 0) := by unfold Hid; rw [Int.tmod_neg, Int.tmod_one]
   obtain ⟨z, hz⟩ : ∃ z, wrap64 (n.tdiv (-1)) = z := ⟨_, rfl⟩
   obtain ⟨y, hy⟩ : ∃ y, n.tmod (-1) = y := ⟨_, rfl⟩
   rw [hz] at H ⊢
   rw [hy] at H2 ⊢
   clear h hz hy hne
   go_enter Tryz.func242, Tryz.ntmps242
   go_wp2
   go_ret2
   refine ⟨?_, 0, rfl⟩
   rw [H2.out, ← H.out]
   rfl
  ·have hne1 : (m == -1) = false := beq_eq_false_iff_ne.2 h1
   clear h1
   go_enter Tryz.func242, Tryz.ntmps242
   go_wp2
   go_region
   go_wp2
   go_ret2
   exact ⟨rfl, 1, rfl⟩
theorem binary_5 (n m : Int) (w : World) : Calls Tryz.prog 210 #[.int .i64 5, .int .i64 n, .int .i64 m] w fun e w' => e = .returned (.int .i64 (bL 5 n m)) ∧ ∃ q, w' = w.drewN q := by
 have Hd := dU (be n m w)
 obtain ⟨z8, h8⟩ : ∃ z, bL 8 n m = z := ⟨_, rfl⟩
 obtain ⟨z9, h9⟩ : ∃ z, bL 9 n m = z := ⟨_, rfl⟩
 rw [h8, h9] at Hd
 skip
 clear h8 h9
 rw [show bL 5 n m = wrap64 (n + m) from rfl]
 go_enter Tryz.func210, Tryz.ntmps210
 go_wp2_with fail
 refine Hd.out.mono ?_
 rintro e w1 ⟨rfl, q, rfl⟩
 clear Hd
 obtain ⟨W, hW⟩ : ∃ W, w.drewN q = W := ⟨_, rfl⟩
 rw [hW]
 have HW := dU hW
 clear hW
 go_wp2
 go_ret
 exact ⟨rfl, q, HW.out.symm⟩
theorem binary_6 (n m : Int) (w : World) : Calls Tryz.prog 210 #[.int .i64 6, .int .i64 n, .int .i64 m] w fun e w' => e = .returned (.int .i64 (bL 6 n m)) ∧ ∃ q, w' = w.drewN q := by
 have Hd := dU (be n m w)
 obtain ⟨z8, h8⟩ : ∃ z, bL 8 n m = z := ⟨_, rfl⟩
 obtain ⟨z9, h9⟩ : ∃ z, bL 9 n m = z := ⟨_, rfl⟩
 rw [h8, h9] at Hd
 skip
 clear h8 h9
 rw [show bL 6 n m = wrap64 (n - m) from rfl]
 go_enter Tryz.func210, Tryz.ntmps210
 go_wp2_with fail
 refine Hd.out.mono ?_
 rintro e w1 ⟨rfl, q, rfl⟩
 clear Hd
 obtain ⟨W, hW⟩ : ∃ W, w.drewN q = W := ⟨_, rfl⟩
 rw [hW]
 have HW := dU hW
 clear hW
 go_wp2
 go_ret
 exact ⟨rfl, q, HW.out.symm⟩
theorem binary_7 (n m : Int) (w : World) : Calls Tryz.prog 210 #[.int .i64 7, .int .i64 n, .int .i64 m] w fun e w' => e = .returned (.int .i64 (bL 7 n m)) ∧ ∃ q, w' = w.drewN q := by
 have Hd := dU (be n m w)
 obtain ⟨z8, h8⟩ : ∃ z, bL 8 n m = z := ⟨_, rfl⟩
 obtain ⟨z9, h9⟩ : ∃ z, bL 9 n m = z := ⟨_, rfl⟩
 rw [h8, h9] at Hd
 skip
 clear h8 h9
 rw [show bL 7 n m = wrap64 (n * m) from rfl]
 go_enter Tryz.func210, Tryz.ntmps210
 go_wp2_with fail
 refine Hd.out.mono ?_
 rintro e w1 ⟨rfl, q, rfl⟩
 clear Hd
 obtain ⟨W, hW⟩ : ∃ W, w.drewN q = W := ⟨_, rfl⟩
 rw [hW]
 have HW := dU hW
 clear hW
 go_wp2
 go_ret
 exact ⟨rfl, q, HW.out.symm⟩
theorem binary_8 (n m : Int) (w : World) : Calls Tryz.prog 210 #[.int .i64 8, .int .i64 n, .int .i64 m] w fun e w' => e = .returned (.int .i64 (bL 8 n m)) ∧ ∃ q, w' = w.drewN q := by
 have Hd := dU (be n m w)
 obtain ⟨z8, h8⟩ : ∃ z, bL 8 n m = z := ⟨_, rfl⟩
 obtain ⟨z9, h9⟩ : ∃ z, bL 9 n m = z := ⟨_, rfl⟩
 rw [h8, h9] at Hd
 rw [h8]
 clear h8 h9
 go_enter Tryz.func210, Tryz.ntmps210
 go_wp2_with fail
 refine Hd.out.mono ?_
 rintro e w1 ⟨rfl, q, rfl⟩
 clear Hd
 obtain ⟨W, hW⟩ : ∃ W, w.drewN q = W := ⟨_, rfl⟩
 rw [hW]
 have HW := dU hW
 clear hW
 go_wp2
 go_ret
 exact ⟨rfl, q, HW.out.symm⟩
theorem binary_9 (n m : Int) (w : World) : Calls Tryz.prog 210 #[.int .i64 9, .int .i64 n, .int .i64 m] w fun e w' => e = .returned (.int .i64 (bL 9 n m)) ∧ ∃ q, w' = w.drewN q := by
 have Hd := dU (be n m w)
 obtain ⟨z8, h8⟩ : ∃ z, bL 8 n m = z := ⟨_, rfl⟩
 obtain ⟨z9, h9⟩ : ∃ z, bL 9 n m = z := ⟨_, rfl⟩
 rw [h8, h9] at Hd
 rw [h9]
 clear h8 h9
 go_enter Tryz.func210, Tryz.ntmps210
 go_wp2_with fail
 refine Hd.out.mono ?_
 rintro e w1 ⟨rfl, q, rfl⟩
 clear Hd
 obtain ⟨W, hW⟩ : ∃ W, w.drewN q = W := ⟨_, rfl⟩
 rw [hW]
 have HW := dU hW
 clear hW
 go_wp2
 go_ret
 exact ⟨rfl, q, HW.out.symm⟩
theorem binary_10 (n m : Int) (w : World) : Calls Tryz.prog 210 #[.int .i64 10, .int .i64 n, .int .i64 m] w fun e w' => e = .returned (.int .i64 (bL 10 n m)) ∧ ∃ q, w' = w.drewN q := by
 have Hd := dU (be n m w)
 obtain ⟨z8, h8⟩ : ∃ z, bL 8 n m = z := ⟨_, rfl⟩
 obtain ⟨z9, h9⟩ : ∃ z, bL 9 n m = z := ⟨_, rfl⟩
 rw [h8, h9] at Hd
 skip
 clear h8 h9
 rw [show bL 10 n m = bits .and .i64 n m from rfl]
 go_enter Tryz.func210, Tryz.ntmps210
 go_wp2_with fail
 refine Hd.out.mono ?_
 rintro e w1 ⟨rfl, q, rfl⟩
 clear Hd
 obtain ⟨W, hW⟩ : ∃ W, w.drewN q = W := ⟨_, rfl⟩
 rw [hW]
 have HW := dU hW
 clear hW
 go_wp2
 go_ret
 exact ⟨rfl, q, HW.out.symm⟩
theorem binary_11 (n m : Int) (w : World) : Calls Tryz.prog 210 #[.int .i64 11, .int .i64 n, .int .i64 m] w fun e w' => e = .returned (.int .i64 (bL 11 n m)) ∧ ∃ q, w' = w.drewN q := by
 have Hd := dU (be n m w)
 obtain ⟨z8, h8⟩ : ∃ z, bL 8 n m = z := ⟨_, rfl⟩
 obtain ⟨z9, h9⟩ : ∃ z, bL 9 n m = z := ⟨_, rfl⟩
 rw [h8, h9] at Hd
 skip
 clear h8 h9
 rw [show bL 11 n m = bits .or .i64 n m from rfl]
 go_enter Tryz.func210, Tryz.ntmps210
 go_wp2_with fail
 refine Hd.out.mono ?_
 rintro e w1 ⟨rfl, q, rfl⟩
 clear Hd
 obtain ⟨W, hW⟩ : ∃ W, w.drewN q = W := ⟨_, rfl⟩
 rw [hW]
 have HW := dU hW
 clear hW
 go_wp2
 go_ret
 exact ⟨rfl, q, HW.out.symm⟩
theorem binary_12 (n m : Int) (w : World) : Calls Tryz.prog 210 #[.int .i64 12, .int .i64 n, .int .i64 m] w fun e w' => e = .returned (.int .i64 (bL 12 n m)) ∧ ∃ q, w' = w.drewN q := by
 have Hd := dU (be n m w)
 obtain ⟨z8, h8⟩ : ∃ z, bL 8 n m = z := ⟨_, rfl⟩
 obtain ⟨z9, h9⟩ : ∃ z, bL 9 n m = z := ⟨_, rfl⟩
 rw [h8, h9] at Hd
 skip
 clear h8 h9
 rw [show bL 12 n m = bits .xor .i64 n m from rfl]
 go_enter Tryz.func210, Tryz.ntmps210
 go_wp2_with fail
 refine Hd.out.mono ?_
 rintro e w1 ⟨rfl, q, rfl⟩
 clear Hd
 obtain ⟨W, hW⟩ : ∃ W, w.drewN q = W := ⟨_, rfl⟩
 rw [hW]
 have HW := dU hW
 clear hW
 go_wp2
 go_ret
 exact ⟨rfl, q, HW.out.symm⟩
theorem binary_13 (n m : Int) (w : World) : Calls Tryz.prog 210 #[.int .i64 13, .int .i64 n, .int .i64 m] w fun e w' => e = .returned (.int .i64 (bL 13 n m)) ∧ ∃ q, w' = w.drewN q := by
 have Hd := dU (be n m w)
 obtain ⟨z8, h8⟩ : ∃ z, bL 8 n m = z := ⟨_, rfl⟩
 obtain ⟨z9, h9⟩ : ∃ z, bL 9 n m = z := ⟨_, rfl⟩
 rw [h8, h9] at Hd
 skip
 clear h8 h9
 rw [show bL 13 n m = shL n (m % 64).toNat from rfl]
 go_enter Tryz.func210, Tryz.ntmps210
 go_wp2_with fail
 refine Hd.out.mono ?_
 rintro e w1 ⟨rfl, q, rfl⟩
 clear Hd
 obtain ⟨W, hW⟩ : ∃ W, w.drewN q = W := ⟨_, rfl⟩
 rw [hW]
 have HW := dU hW
 clear hW
 go_wp2_with (go_at_call 243; refine (rshift_0 _ _ _).mono ?_; rintro e w' ⟨rfl, rfl⟩)
 go_ret
 exact ⟨rfl, q, HW.out.symm⟩
theorem binary_14 (n m : Int) (w : World) : Calls Tryz.prog 210 #[.int .i64 14, .int .i64 n, .int .i64 m] w fun e w' => e = .returned (.int .i64 (bL 14 n m)) ∧ ∃ q, w' = w.drewN q := by
 have Hd := dU (be n m w)
 obtain ⟨z8, h8⟩ : ∃ z, bL 8 n m = z := ⟨_, rfl⟩
 obtain ⟨z9, h9⟩ : ∃ z, bL 9 n m = z := ⟨_, rfl⟩
 rw [h8, h9] at Hd
 skip
 clear h8 h9
 rw [show bL 14 n m = shR n (m % 64).toNat from rfl]
 go_enter Tryz.func210, Tryz.ntmps210
 go_wp2_with fail
 refine Hd.out.mono ?_
 rintro e w1 ⟨rfl, q, rfl⟩
 clear Hd
 obtain ⟨W, hW⟩ : ∃ W, w.drewN q = W := ⟨_, rfl⟩
 rw [hW]
 have HW := dU hW
 clear hW
 go_wp2_with (go_at_call 243; refine (rshift_1 _ _ _).mono ?_; rintro e w' ⟨rfl, rfl⟩)
 go_ret
 exact ⟨rfl, q, HW.out.symm⟩
theorem binary_15 (n m : Int) (w : World) : Calls Tryz.prog 210 #[.int .i64 15, .int .i64 n, .int .i64 m] w fun e w' => e = .returned (.int .i64 (bL 15 n m)) ∧ ∃ q, w' = w.drewN q := by
 have Hd := dU (be n m w)
 obtain ⟨z8, h8⟩ : ∃ z, bL 8 n m = z := ⟨_, rfl⟩
 obtain ⟨z9, h9⟩ : ∃ z, bL 9 n m = z := ⟨_, rfl⟩
 rw [h8, h9] at Hd
 skip
 clear h8 h9
 rw [show bL 15 n m = shP n (m % 64).toNat from rfl]
 go_enter Tryz.func210, Tryz.ntmps210
 go_wp2_with fail
 refine Hd.out.mono ?_
 rintro e w1 ⟨rfl, q, rfl⟩
 clear Hd
 obtain ⟨W, hW⟩ : ∃ W, w.drewN q = W := ⟨_, rfl⟩
 rw [hW]
 have HW := dU hW
 clear hW
 go_wp2_with (go_at_call 243; refine (rshift_2 _ _ _).mono ?_; rintro e w' ⟨rfl, rfl⟩)
 go_ret
 exact ⟨rfl, q, HW.out.symm⟩
theorem binary_16 (n m : Int) (w : World) : Calls Tryz.prog 210 #[.int .i64 16, .int .i64 n, .int .i64 m] w fun e w' => e = .returned (.int .i64 (bL 16 n m)) ∧ ∃ q, w' = w.drewN q := by
 have Hd := dU (be n m w)
 obtain ⟨z8, h8⟩ : ∃ z, bL 8 n m = z := ⟨_, rfl⟩
 obtain ⟨z9, h9⟩ : ∃ z, bL 9 n m = z := ⟨_, rfl⟩
 rw [h8, h9] at Hd
 skip
 clear h8 h9
 rw [show bL 16 n m = tru (decide (n < m)) from rfl]
 go_enter Tryz.func210, Tryz.ntmps210
 go_wp2_with fail
 refine Hd.out.mono ?_
 rintro e w1 ⟨rfl, q, rfl⟩
 clear Hd
 obtain ⟨W, hW⟩ : ∃ W, w.drewN q = W := ⟨_, rfl⟩
 rw [hW]
 have HW := dU hW
 clear hW
 go_wp2_with (go_at_call 211; refine (kM _ _).mono ?_; rintro e w' ⟨rfl, rfl⟩)
 go_ret
 exact ⟨rfl, q, HW.out.symm⟩
theorem binary_17 (n m : Int) (w : World) : Calls Tryz.prog 210 #[.int .i64 17, .int .i64 n, .int .i64 m] w fun e w' => e = .returned (.int .i64 (bL 17 n m)) ∧ ∃ q, w' = w.drewN q := by
 have Hd := dU (be n m w)
 obtain ⟨z8, h8⟩ : ∃ z, bL 8 n m = z := ⟨_, rfl⟩
 obtain ⟨z9, h9⟩ : ∃ z, bL 9 n m = z := ⟨_, rfl⟩
 rw [h8, h9] at Hd
 skip
 clear h8 h9
 rw [show bL 17 n m = tru (n == m) from rfl]
 go_enter Tryz.func210, Tryz.ntmps210
 go_wp2_with fail
 refine Hd.out.mono ?_
 rintro e w1 ⟨rfl, q, rfl⟩
 clear Hd
 obtain ⟨W, hW⟩ : ∃ W, w.drewN q = W := ⟨_, rfl⟩
 rw [hW]
 have HW := dU hW
 clear hW
 go_wp2_with (go_at_call 211; refine (kM _ _).mono ?_; rintro e w' ⟨rfl, rfl⟩)
 go_ret
 exact ⟨rfl, q, HW.out.symm⟩
theorem binary_any (k n m : Int) (w : World) (h5 : 5 ≤ k) (h17 : k ≤ 17) : Calls Tryz.prog 210 #[.int .i64 k, .int .i64 n, .int .i64 m] w fun e w' => e = .returned (.int .i64 (bL k n m)) ∧ ∃ q, w' = w.drewN q := by
 have hk : k = 5 ∨ k = 6 ∨ k = 7 ∨ k = 8 ∨ k = 9 ∨ k = 10 ∨ k = 11 ∨ k = 12 ∨ k = 13 ∨ k = 14 ∨ k = 15 ∨ k = 16 ∨ k = 17 := by omega
 rcases hk with rfl | rfl | rfl | rfl | rfl | rfl | rfl | rfl | rfl | rfl | rfl | rfl | rfl
 ·exact binary_5 n m w
 ·exact binary_6 n m w
 ·exact binary_7 n m w
 ·exact binary_8 n m w
 ·exact binary_9 n m w
 ·exact binary_10 n m w
 ·exact binary_11 n m w
 ·exact binary_12 n m w
 ·exact binary_13 n m w
 ·exact binary_14 n m w
 ·exact binary_15 n m w
 ·exact binary_16 n m w
 ·exact binary_17 n m w
abbrev TR : TypeId := 217
theorem kt_R : Kt TR := by unfold Kt; decide
section
variable {lo : Nat} {x : Rc} {R : Nat} {w : World} {vs vo : Value} {s : St}
theorem bY {a : Int} {r : List Int} (h : aK TR lo x R w vs vo s) (hs : s.st = a :: r) :
  Calls Tryz.prog 209 #[.pointer (some ⟨R, 0, none⟩)] w fun e w' => e = .returned (.int .i64 a) ∧ MR TR lo x R w vs vo w' ⟨s.fu, r, s.out⟩ := by
 obtain ⟨g, cap, rfl, ⟨hcap, hcm⟩, hc, hm⟩ := h.last hs
 obtain ⟨⟨c0, c1, c2, c3, c4, c5⟩, z3, z4, z5⟩ := h.blk.cells
 have HR : Hid (MR TR lo x R w (.slice (some ⟨g, 0, none⟩) (r.length + 1) cap) vo (w.setCell ⟨R, 4, none⟩ (.slice (some ⟨g, 0, none⟩) r.length cap)) ⟨s.fu, r, s.out⟩) := ⟨_, _, hm⟩
 obtain ⟨n, hn⟩ : ∃ n, r.length = n := ⟨_, rfl⟩
 rw [hn] at hcap hc c4 HR
 clear h hm hs
 rw [hn]
 unfold maxLen at hcm
 clear hn
 go_enter Tryz.func209, Tryz.ntmps209
 go_wp2
 go_ret
 exact ⟨rfl, HR.out⟩
theorem bG {W : World} (z : Int) (h : aK TR lo x R W vs vo s) : (W.alloc (.cells #[.int .i64 z] 2)).ownsRow lo 2 1 vs s.st.length (nums s.st) ∧ lo ≤ W.heap.size + 1 ∧ ∀ H, W.heap.size = H → ∀ j u, [Value.int .i64 z][j]? = some u → (W.alloc (.cells #[.int .i64 z] 2)).cell? ((⟨H, 0, none⟩ : Addr).add j) = some u := by
 refine ⟨(h.alloc _).st, by have := h.lw; have := h.blk.lt; omega, fun H hH => ?_⟩
 subst hH
 exact cell_one_new _ _ _
theorem bg {W w2 : World} {z : Int} {v2 : Value} (h : aK TR lo x R W vs vo s) (hown : w2.ownsRow lo 2 1 v2 (s.st.length + 1) (nums s.st ++ [.int .i64 z])) (hg : (W.alloc (.cells #[.int .i64 z] 2)).grownBy w2 vs.ownBlock) (hat : v2.ownBlock = vs.ownBlock ∨ v2.ownBlock = some (W.heap.size + 1)) :
  (w2.cell? ⟨R, 4, none⟩ = some vs ∧ w2.frozen? ⟨R, 4, none⟩ = false) ∧ aK TR lo x R (w2.setCell ⟨R, 4, none⟩ v2) v2 vo ⟨s.fu, z :: s.st, s.out⟩ ∧ Fr R W vs vo (w2.setCell ⟨R, 4, none⟩ v2) v2 vo := by
 have h2 := h.alloc (.cells #[.int .i64 z] 2)
 have hr := h2.row4 (l := z :: s.st) (by rw [oB]; exact hown) hg (by simpa using hat)
 have hb2 : du TR w2 R x s.fu vs vo := h2.blk.keep (hg.block R h2.blk.lt (cH h2.st h2.blk h2.ty.1))
 obtain ⟨⟨_, _, _, _, d4, _⟩, _, y4, _⟩ := hb2.cells
 exact ⟨⟨d4, y4⟩, hr.1, ((Fr.refl _ _ _ _).alloc _).trans hr.2⟩
end
section
variable {lo : Nat} {x : Rc} {R : Nat} {w : World} {vs vo : Value} {s : St}
theorem opg_1 (n : Int) (v : Value) (h : aK TR lo x R w vs vo s)  (hl : s.st.length ≤ 50) :
  Calls Tryz.prog 183 #[.pointer (some ⟨R, 0, none⟩), .agg #[.int .i64 1, .int .i64 n, v]] w fun e w' => e = .returned (.int .i64 0) ∧ MR TR lo x R w vs vo w' ⟨s.fu, n :: s.st, s.out⟩ := by
 obtain ⟨i0, hi, hz0, hz1, hz2⟩ := info_parts Tryz.info2E
 have h0 := h.alloc (.cells #[.int .i64 1, .int .i64 n, v] 230)
 have HF0 : Hid (Fr R w vs vo (w.alloc (.cells #[.int .i64 1, .int .i64 n, v] 230)) vs vo) := (Fr.refl _ _ _ _).alloc _
 have HM0 := af h0
 have HX0 := af (aA.new w 1 n v)
 obtain ⟨⟨c0, c1, c2, c3, _, c5⟩, _⟩ := h0.blk.cells
 have hRl := h.blk.lt
 obtain ⟨fu, st, out⟩ := s
 simp only at *
 obtain ⟨ho1, hbs1, hnw1⟩ := bG n HM0.out
 have hsz1 := hnw1 (w.heap.size + 1) (by simp)
 clear hnw1
 obtain ⟨a1, cap1, rfl⟩ := bz HM0.out.st
 obtain ⟨⟨_, _, _, _, c4, _⟩, _, z4, _⟩ := HM0.out.blk.cells
 simp only at c4 ho1
 have hnl1 : st.length + 1 ≤ maxLen := by unfold maxLen; omega
 have hnb1 : (st.length + 1) * 8 ≤ 140737488355328 := by omega
 clear h h0
 go_enter Tryz.func183, Tryz.ntmps183
 go_wp2_with (at_builtin; refine wpList_append_own_at _ rfl _ _ 125 rfl lo 2 i0 _ 1 8 Tryz.underlying125 hi hz0 hz1 hz2 rfl (by decide) (.slice a1 (st).length cap1) (st).length (nums (st)) rfl ho1 ⟨w.heap.size + 1, 0, none⟩ 1 1 [.int .i64 n] rfl rfl hsz1 (bR _) hnl1 hnb1 (by simpa using hbs1) ?_)
 intro v2 W1 hown2 hgrow2 hnil2 hat2
 obtain ⟨g2, cap2, rfl⟩ := bu hown2
 obtain ⟨⟨d4, y4⟩, hm1, hf1⟩ := bg HM0.out hown2 hgrow2 (by simpa using hat2)
 have HM1 := af hm1
 have HF1 := af (HF0.out.trans hf1)
 clear hown2 hgrow2 hnil2 hat2 ho1 hbs1 hsz1 hm1 hf1 c4 z4
 have HR : Hid (MR TR lo x R w _ vo _ _) := ⟨_, _, HM1.out, HF1.out⟩
 go_wp2
 go_ret
 exact ⟨rfl, HR.out⟩
theorem opg_2 (n : Int) (v : Value) (h : aK TR lo x R w vs vo s)  (hl : s.st.length ≤ 50) :
  Calls Tryz.prog 183 #[.pointer (some ⟨R, 0, none⟩), .agg #[.int .i64 2, .int .i64 n, v]] w fun e w' => e = .returned (.int .i64 0) ∧ MR TR lo x R w vs vo w' ⟨s.fu, x.1.1 :: s.st, s.out⟩ := by
 obtain ⟨i0, hi, hz0, hz1, hz2⟩ := info_parts Tryz.info2E
 have h0 := h.alloc (.cells #[.int .i64 2, .int .i64 n, v] 230)
 have HF0 : Hid (Fr R w vs vo (w.alloc (.cells #[.int .i64 2, .int .i64 n, v] 230)) vs vo) := (Fr.refl _ _ _ _).alloc _
 have HM0 := af h0
 have HX0 := af (aA.new w 2 n v)
 obtain ⟨⟨c0, c1, c2, c3, _, c5⟩, _⟩ := h0.blk.cells
 have hRl := h.blk.lt
 obtain ⟨fu, st, out⟩ := s
 simp only at *
 obtain ⟨ho1, hbs1, hnw1⟩ := bG x.1.1 HM0.out
 have hsz1 := hnw1 (w.heap.size + 1) (by simp)
 clear hnw1
 obtain ⟨a1, cap1, rfl⟩ := bz HM0.out.st
 obtain ⟨⟨_, _, _, _, c4, _⟩, _, z4, _⟩ := HM0.out.blk.cells
 simp only at c4 ho1
 have hnl1 : st.length + 1 ≤ maxLen := by unfold maxLen; omega
 have hnb1 : (st.length + 1) * 8 ≤ 140737488355328 := by omega
 clear h h0
 go_enter Tryz.func183, Tryz.ntmps183
 go_wp2_with (at_builtin; refine wpList_append_own_at _ rfl _ _ 125 rfl lo 2 i0 _ 1 8 Tryz.underlying125 hi hz0 hz1 hz2 rfl (by decide) (.slice a1 (st).length cap1) (st).length (nums (st)) rfl ho1 ⟨w.heap.size + 1, 0, none⟩ 1 1 [.int .i64 x.1.1] rfl rfl hsz1 (bR _) hnl1 hnb1 (by simpa using hbs1) ?_)
 intro v2 W1 hown2 hgrow2 hnil2 hat2
 obtain ⟨g2, cap2, rfl⟩ := bu hown2
 obtain ⟨⟨d4, y4⟩, hm1, hf1⟩ := bg HM0.out hown2 hgrow2 (by simpa using hat2)
 have HM1 := af hm1
 have HF1 := af (HF0.out.trans hf1)
 clear hown2 hgrow2 hnil2 hat2 ho1 hbs1 hsz1 hm1 hf1 c4 z4
 have HR : Hid (MR TR lo x R w _ vo _ _) := ⟨_, _, HM1.out, HF1.out⟩
 go_wp2
 go_ret
 exact ⟨rfl, HR.out⟩
theorem opg_3 (n : Int) (v : Value) (h : aK TR lo x R w vs vo s) (hx : x.1.2.size ≤ 64) (hl : s.st.length ≤ 50) :
  Calls Tryz.prog 183 #[.pointer (some ⟨R, 0, none⟩), .agg #[.int .i64 3, .int .i64 n, v]] w fun e w' => e = .returned (.int .i64 0) ∧ MR TR lo x R w vs vo w' ⟨s.fu, (x.1.2.size : Int) :: s.st, s.out⟩ := by
 obtain ⟨i0, hi, hz0, hz1, hz2⟩ := info_parts Tryz.info2E
 have h0 := h.alloc (.cells #[.int .i64 3, .int .i64 n, v] 230)
 have HF0 : Hid (Fr R w vs vo (w.alloc (.cells #[.int .i64 3, .int .i64 n, v] 230)) vs vo) := (Fr.refl _ _ _ _).alloc _
 have HM0 := af h0
 have HX0 := af (aA.new w 3 n v)
 obtain ⟨⟨c0, c1, c2, c3, _, c5⟩, _⟩ := h0.blk.cells
 have hRl := h.blk.lt
 obtain ⟨fu, st, out⟩ := s
 simp only at *
 obtain ⟨ho1, hbs1, hnw1⟩ := bG (x.1.2.size : Int) HM0.out
 have hsz1 := hnw1 (w.heap.size + 1) (by simp)
 clear hnw1
 obtain ⟨a1, cap1, rfl⟩ := bz HM0.out.st
 obtain ⟨⟨_, _, _, _, c4, _⟩, _, z4, _⟩ := HM0.out.blk.cells
 simp only at c4 ho1
 have hnl1 : st.length + 1 ≤ maxLen := by unfold maxLen; omega
 have hnb1 : (st.length + 1) * 8 ≤ 140737488355328 := by omega
 clear h h0
 go_enter Tryz.func183, Tryz.ntmps183
 go_wp2_with (at_builtin; refine wpList_append_own_at _ rfl _ _ 125 rfl lo 2 i0 _ 1 8 Tryz.underlying125 hi hz0 hz1 hz2 rfl (by decide) (.slice a1 (st).length cap1) (st).length (nums (st)) rfl ho1 ⟨w.heap.size + 1, 0, none⟩ 1 1 [.int .i64 (x.1.2.size : Int)] rfl rfl hsz1 (bR _) hnl1 hnb1 (by simpa using hbs1) ?_)
 intro v2 W1 hown2 hgrow2 hnil2 hat2
 obtain ⟨g2, cap2, rfl⟩ := bu hown2
 obtain ⟨⟨d4, y4⟩, hm1, hf1⟩ := bg HM0.out hown2 hgrow2 (by simpa using hat2)
 have HM1 := af hm1
 have HF1 := af (HF0.out.trans hf1)
 clear hown2 hgrow2 hnil2 hat2 ho1 hbs1 hsz1 hm1 hf1 c4 z4
 have HR : Hid (MR TR lo x R w _ vo _ _) := ⟨_, _, HM1.out, HF1.out⟩
 go_wp2
 go_ret
 exact ⟨rfl, HR.out⟩
theorem opg_4 (n : Int) (v : Value) (h : aK TR lo x R w vs vo s)  (hl : s.st.length ≤ 50) :
  Calls Tryz.prog 183 #[.pointer (some ⟨R, 0, none⟩), .agg #[.int .i64 4, .int .i64 n, v]] w fun e w' => e = .returned (.int .i64 0) ∧ MR TR lo x R w vs vo w' ⟨s.fu, x.2 :: s.st, s.out⟩ := by
 obtain ⟨i0, hi, hz0, hz1, hz2⟩ := info_parts Tryz.info2E
 have h0 := h.alloc (.cells #[.int .i64 4, .int .i64 n, v] 230)
 have HF0 : Hid (Fr R w vs vo (w.alloc (.cells #[.int .i64 4, .int .i64 n, v] 230)) vs vo) := (Fr.refl _ _ _ _).alloc _
 have HM0 := af h0
 have HX0 := af (aA.new w 4 n v)
 obtain ⟨⟨c0, c1, c2, c3, _, c5⟩, _⟩ := h0.blk.cells
 have hRl := h.blk.lt
 obtain ⟨fu, st, out⟩ := s
 simp only at *
 obtain ⟨ho1, hbs1, hnw1⟩ := bG x.2 HM0.out
 have hsz1 := hnw1 (w.heap.size + 1) (by simp)
 clear hnw1
 obtain ⟨a1, cap1, rfl⟩ := bz HM0.out.st
 obtain ⟨⟨_, _, _, _, c4, _⟩, _, z4, _⟩ := HM0.out.blk.cells
 simp only at c4 ho1
 have hnl1 : st.length + 1 ≤ maxLen := by unfold maxLen; omega
 have hnb1 : (st.length + 1) * 8 ≤ 140737488355328 := by omega
 clear h h0
 go_enter Tryz.func183, Tryz.ntmps183
 go_wp2_with (at_builtin; refine wpList_append_own_at _ rfl _ _ 125 rfl lo 2 i0 _ 1 8 Tryz.underlying125 hi hz0 hz1 hz2 rfl (by decide) (.slice a1 (st).length cap1) (st).length (nums (st)) rfl ho1 ⟨w.heap.size + 1, 0, none⟩ 1 1 [.int .i64 x.2] rfl rfl hsz1 (bR _) hnl1 hnb1 (by simpa using hbs1) ?_)
 intro v2 W1 hown2 hgrow2 hnil2 hat2
 obtain ⟨g2, cap2, rfl⟩ := bu hown2
 obtain ⟨⟨d4, y4⟩, hm1, hf1⟩ := bg HM0.out hown2 hgrow2 (by simpa using hat2)
 have HM1 := af hm1
 have HF1 := af (HF0.out.trans hf1)
 clear hown2 hgrow2 hnil2 hat2 ho1 hbs1 hsz1 hm1 hf1 c4 z4
 have HR : Hid (MR TR lo x R w _ vo _ _) := ⟨_, _, HM1.out, HF1.out⟩
 go_wp2
 go_ret
 exact ⟨rfl, HR.out⟩
end
section
variable {lo : Nat} {x : Rc} {R : Nat} {w : World} {vs vo : Value} {s : St}
theorem op_b (k : Int) (n : Int) (v : Value) (h : aK TR lo x R w vs vo s) {a b : Int} {r : List Int} (h5 : 5 ≤ k) (h17 : k ≤ 17) (hs : s.st = a :: b :: r) (hl : s.st.length ≤ 50) :
  Calls Tryz.prog 183 #[.pointer (some ⟨R, 0, none⟩), .agg #[.int .i64 k, .int .i64 n, v]] w fun e w' => e = .returned (.int .i64 0) ∧ MR TR lo x R w vs vo w' ⟨s.fu, bL k b a :: r, s.out⟩ := by
 obtain ⟨i0, hi, hz0, hz1, hz2⟩ := info_parts Tryz.info2E
 have h0 := h.alloc (.cells #[.int .i64 k, .int .i64 n, v] 230)
 have HF0 : Hid (Fr R w vs vo (w.alloc (.cells #[.int .i64 k, .int .i64 n, v] 230)) vs vo) := (Fr.refl _ _ _ _).alloc _
 have HM0 := af h0
 have HX0 := af (aA.new w k n v)
 have hrl : r.length ≤ 50 := by rw [hs] at hl; simp at hl; omega
 have Ht := af (bY h0 hs)
 have Ho := af (fun W => binary_any k b a W h5 h17)
 generalize bL k b a = z at Ho ⊢
 obtain ⟨fu, st, out⟩ := s
 clear h h0 hs hl
 go_enter Tryz.func183, Tryz.ntmps183
 go_wp2_with fail
 refine Ht.out.mono ?_
 rintro e w1 ⟨rfl, vsA, voA, hmA, hfA⟩
 have HFA := af (HF0.out.trans hfA)
 have hbxA := HM0.out.boxO hfA HX0.out
 obtain ⟨b0, b1, b2⟩ := hbxA.cells
 have HXA := af hbxA
 have HMA := af hmA
 have H1 : Hid (Calls Tryz.prog 209 #[.pointer (some ⟨R, 0, none⟩)] w1.drew fun e w' => e = .returned (.int .i64 b) ∧ MR TR lo x R (w1.drewN 1) vsA voA w' ⟨fu, r, out⟩) := bY (hmA.drew 1) rfl
 clear hmA hfA Ht hbxA b1 b2
 go_wp2
 go_region_held3 (fun W' => W'.cell? ⟨w.heap.size, 0, none⟩ = some (.int .i64 k))
  (first | assumption | exact b0)
  (first
   | (go_at_call 209; refine H1.out.mono ?_; rintro e w2 ⟨rfl, vs1, vo1, hm2, hf2⟩; have b0' := (HMA.out.drew 1).boxO hf2 HXA.out; have b0 := b0'.cells.1; clear b0')
   | (go_at_call 210; refine (Ho.out _).mono ?_; rintro e w3 ⟨rfl, q3, rfl⟩))
 all_goals
  have HF2 := af (((HFA.out.drew 1).trans hf2).drew q3)
  have hm3 := hm2.drew q3
  have HM2 := af hm3
  clear hf2 hm2 H1
  clear hm3
  generalize w2.drewN q3 = W at HF2 HM2 ⊢
  obtain ⟨ho1, hbs1, hnw1⟩ := bG z HM2.out
  have hsz1 := hnw1 (W.heap.size) (by simp)
  clear hnw1
  obtain ⟨a1, cap1, hv1⟩ := bz HM2.out.st
  have hv1' : vs1 = .slice a1 (r).length cap1 := hv1
  subst hv1'
  clear hv1
  obtain ⟨⟨_, _, _, _, c4, _⟩, _, z4, _⟩ := HM2.out.blk.cells
  have hnl1 : (r).length + 1 ≤ maxLen := by (try simp only [List.length_cons, List.length_nil]); unfold maxLen; omega
  have hnb1 : ((r).length + 1) * 8 ≤ 140737488355328 := by (try simp only [List.length_cons, List.length_nil]); omega
  go_wp2_with (at_builtin; refine wpList_append_own_at _ rfl _ _ 125 rfl lo 2 i0 _ 1 8 Tryz.underlying125 hi hz0 hz1 hz2 rfl (by decide) (.slice a1 (r).length cap1) (r).length (nums (r)) rfl ho1 ⟨W.heap.size, 0, none⟩ 1 1 [.int .i64 z] rfl rfl hsz1 (bR _) hnl1 hnb1 (by simpa using hbs1) ?_)
  intro v2 W1 hown2 hgrow2 hnil2 hat2
  obtain ⟨g2, cap2, rfl⟩ := bu hown2
  obtain ⟨⟨d4, y4⟩, hm1, hf1⟩ := bg HM2.out hown2 hgrow2 (by simpa using hat2)
  have HM1 := af hm1
  have HF1 := af (HF2.out.trans hf1)
  clear hown2 hgrow2 hnil2 hat2 ho1 hbs1 hsz1 hm1 hf1 c4 z4
  have HR : Hid (MR TR lo x R w _ vo _ _) := ⟨_, _, HM1.out, HF1.out⟩
  go_wp2
  go_ret
  exact ⟨rfl, HR.out⟩
end
section
variable {lo : Nat} {x : Rc} {R : Nat} {w : World} {vs vo : Value} {s : St}
theorem op_18 (n : Int) (v : Value) (h : aK TR lo x R w vs vo s) {a : Int} {r : List Int} (hs : s.st = a :: r) (hl : s.st.length ≤ 50) :
  Calls Tryz.prog 183 #[.pointer (some ⟨R, 0, none⟩), .agg #[.int .i64 18, .int .i64 n, v]] w fun e w' => e = .returned (.int .i64 0) ∧ MR TR lo x R w vs vo w' ⟨s.fu, fy 18 a :: r, s.out⟩ := by
 obtain ⟨i0, hi, hz0, hz1, hz2⟩ := info_parts Tryz.info2E
 have h0 := h.alloc (.cells #[.int .i64 18, .int .i64 n, v] 230)
 have HF0 : Hid (Fr R w vs vo (w.alloc (.cells #[.int .i64 18, .int .i64 n, v] 230)) vs vo) := (Fr.refl _ _ _ _).alloc _
 have HM0 := af h0
 have HX0 := af (aA.new w 18 n v)
 have hrl : r.length ≤ 50 := by rw [hs] at hl; simp at hl; omega
 have Ht := af (bY h0 hs)
 obtain ⟨fu, st, out⟩ := s
 obtain ⟨z, hz⟩ : ∃ z, fy 18 a = z := ⟨_, rfl⟩
 rw [hz]
 have Ho := af (fun W => kM (a == 0) W)
 rw [show tru (a == 0) = fy 18 a from rfl, hz] at Ho
 clear h h0 hs hl hz
 go_enter Tryz.func183, Tryz.ntmps183
 go_wp2_with fail
 refine Ht.out.mono ?_
 rintro e w1 ⟨rfl, vs1, vo1, hmA, hfA⟩
 have HFA := af (HF0.out.trans hfA)
 have HMA := af hmA
 clear hmA hfA Ht
 go_wp2_with fail
 refine (Ho.out _).mono ?_
 rintro e w' ⟨rfl, rfl⟩
 obtain ⟨ho1, hbs1, hnw1⟩ := bG z HMA.out
 have hsz1 := hnw1 (w'.heap.size) (by simp)
 clear hnw1
 obtain ⟨a1, cap1, hv1⟩ := bz HMA.out.st
 have hv1' : vs1 = .slice a1 (r).length cap1 := hv1
 subst hv1'
 clear hv1
 obtain ⟨⟨_, _, _, _, c4, _⟩, _, z4, _⟩ := HMA.out.blk.cells
 have hnl1 : (r).length + 1 ≤ maxLen := by (try simp only [List.length_cons, List.length_nil]); unfold maxLen; omega
 have hnb1 : ((r).length + 1) * 8 ≤ 140737488355328 := by (try simp only [List.length_cons, List.length_nil]); omega
 go_wp2_with (at_builtin; refine wpList_append_own_at _ rfl _ _ 125 rfl lo 2 i0 _ 1 8 Tryz.underlying125 hi hz0 hz1 hz2 rfl (by decide) (.slice a1 (r).length cap1) (r).length (nums (r)) rfl ho1 ⟨w'.heap.size, 0, none⟩ 1 1 [.int .i64 z] rfl rfl hsz1 (bR _) hnl1 hnb1 (by simpa using hbs1) ?_)
 intro v2 W1 hown2 hgrow2 hnil2 hat2
 obtain ⟨g2, cap2, rfl⟩ := bu hown2
 obtain ⟨⟨d4, y4⟩, hm1, hf1⟩ := bg HMA.out hown2 hgrow2 (by simpa using hat2)
 have HM1 := af hm1
 have HF1 := af (HFA.out.trans hf1)
 clear hown2 hgrow2 hnil2 hat2 ho1 hbs1 hsz1 hm1 hf1 c4 z4
 have HR : Hid (MR TR lo x R w _ vo _ _) := ⟨_, _, HM1.out, HF1.out⟩
 go_wp2
 go_ret
 exact ⟨rfl, HR.out⟩
theorem op_19 (n : Int) (v : Value) (h : aK TR lo x R w vs vo s) {a : Int} {r : List Int} (hs : s.st = a :: r) (hl : s.st.length ≤ 50) :
  Calls Tryz.prog 183 #[.pointer (some ⟨R, 0, none⟩), .agg #[.int .i64 19, .int .i64 n, v]] w fun e w' => e = .returned (.int .i64 0) ∧ MR TR lo x R w vs vo w' ⟨s.fu, fy 19 a :: r, s.out⟩ := by
 obtain ⟨i0, hi, hz0, hz1, hz2⟩ := info_parts Tryz.info2E
 have h0 := h.alloc (.cells #[.int .i64 19, .int .i64 n, v] 230)
 have HF0 : Hid (Fr R w vs vo (w.alloc (.cells #[.int .i64 19, .int .i64 n, v] 230)) vs vo) := (Fr.refl _ _ _ _).alloc _
 have HM0 := af h0
 have HX0 := af (aA.new w 19 n v)
 have hrl : r.length ≤ 50 := by rw [hs] at hl; simp at hl; omega
 obtain ⟨fu, st, out⟩ := s
 obtain ⟨z, hz⟩ : ∃ z, fy 19 a = z := ⟨_, rfl⟩
 rw [hz]
 have Ho := af (fun W => rcut_8f a W)
 rw [show a % 256 = fy 19 a from rfl, hz] at Ho
 have Ht : Hid (Calls Tryz.prog 209 #[.pointer (some ⟨R, 0, none⟩)] (w.alloc (.cells #[.int .i64 19, .int .i64 n, v] 230)).drew fun e w' => e = .returned (.int .i64 a) ∧ MR TR lo x R ((w.alloc (.cells #[.int .i64 19, .int .i64 n, v] 230)).drewN 1) vs vo w' ⟨fu, r, out⟩) := bY (h0.drew 1) hs
 clear h h0 hs hl hz
 go_enter Tryz.func183, Tryz.ntmps183
 go_wp2
 go_region_held3 (fun W' => True) (trivial)
  (first
   | (go_at_call 209; refine Ht.out.mono ?_; rintro e w1 ⟨rfl, vs1, vo1, hmA, hfA⟩)
   | (go_at_call 212; refine (Ho.out _).mono ?_; rintro e w' ⟨rfl, rfl⟩))
 have HFA := af ((HF0.out.drew 1).trans hfA)
 have HMA := af hmA
 clear hmA hfA Ht
 obtain ⟨ho1, hbs1, hnw1⟩ := bG z HMA.out
 have hsz1 := hnw1 (w'.heap.size) (by simp)
 clear hnw1
 obtain ⟨a1, cap1, hv1⟩ := bz HMA.out.st
 have hv1' : vs1 = .slice a1 (r).length cap1 := hv1
 subst hv1'
 clear hv1
 obtain ⟨⟨_, _, _, _, c4, _⟩, _, z4, _⟩ := HMA.out.blk.cells
 have hnl1 : (r).length + 1 ≤ maxLen := by (try simp only [List.length_cons, List.length_nil]); unfold maxLen; omega
 have hnb1 : ((r).length + 1) * 8 ≤ 140737488355328 := by (try simp only [List.length_cons, List.length_nil]); omega
 go_wp2_with (at_builtin; refine wpList_append_own_at _ rfl _ _ 125 rfl lo 2 i0 _ 1 8 Tryz.underlying125 hi hz0 hz1 hz2 rfl (by decide) (.slice a1 (r).length cap1) (r).length (nums (r)) rfl ho1 ⟨w'.heap.size, 0, none⟩ 1 1 [.int .i64 z] rfl rfl hsz1 (bR _) hnl1 hnb1 (by simpa using hbs1) ?_)
 intro v2 W1 hown2 hgrow2 hnil2 hat2
 obtain ⟨g2, cap2, rfl⟩ := bu hown2
 obtain ⟨⟨d4, y4⟩, hm1, hf1⟩ := bg HMA.out hown2 hgrow2 (by simpa using hat2)
 have HM1 := af hm1
 have HF1 := af (HFA.out.trans hf1)
 clear hown2 hgrow2 hnil2 hat2 ho1 hbs1 hsz1 hm1 hf1 c4 z4
 have HR : Hid (MR TR lo x R w _ vo _ _) := ⟨_, _, HM1.out, HF1.out⟩
 go_wp2
 go_ret
 exact ⟨rfl, HR.out⟩
theorem op_20 (n : Int) (v : Value) (h : aK TR lo x R w vs vo s) {a : Int} {r : List Int} (hs : s.st = a :: r) (hl : s.st.length ≤ 50) :
  Calls Tryz.prog 183 #[.pointer (some ⟨R, 0, none⟩), .agg #[.int .i64 20, .int .i64 n, v]] w fun e w' => e = .returned (.int .i64 0) ∧ MR TR lo x R w vs vo w' ⟨s.fu, fy 20 a :: r, s.out⟩ := by
 obtain ⟨i0, hi, hz0, hz1, hz2⟩ := info_parts Tryz.info2E
 have h0 := h.alloc (.cells #[.int .i64 20, .int .i64 n, v] 230)
 have HF0 : Hid (Fr R w vs vo (w.alloc (.cells #[.int .i64 20, .int .i64 n, v] 230)) vs vo) := (Fr.refl _ _ _ _).alloc _
 have HM0 := af h0
 have HX0 := af (aA.new w 20 n v)
 have hrl : r.length ≤ 50 := by rw [hs] at hl; simp at hl; omega
 obtain ⟨fu, st, out⟩ := s
 obtain ⟨z, hz⟩ : ∃ z, fy 20 a = z := ⟨_, rfl⟩
 rw [hz]
 have Ho := af (fun W => rcut_16f a W)
 rw [show wrap64 (IntKind.u16.wrap a) = fy 20 a from rfl, hz] at Ho
 have Ht : Hid (Calls Tryz.prog 209 #[.pointer (some ⟨R, 0, none⟩)] (w.alloc (.cells #[.int .i64 20, .int .i64 n, v] 230)).drew fun e w' => e = .returned (.int .i64 a) ∧ MR TR lo x R ((w.alloc (.cells #[.int .i64 20, .int .i64 n, v] 230)).drewN 1) vs vo w' ⟨fu, r, out⟩) := bY (h0.drew 1) hs
 clear h h0 hs hl hz
 go_enter Tryz.func183, Tryz.ntmps183
 go_wp2
 go_region_held3 (fun W' => True) (trivial)
  (first
   | (go_at_call 209; refine Ht.out.mono ?_; rintro e w1 ⟨rfl, vs1, vo1, hmA, hfA⟩)
   | (go_at_call 212; refine (Ho.out _).mono ?_; rintro e w' ⟨rfl, rfl⟩))
 have HFA := af ((HF0.out.drew 1).trans hfA)
 have HMA := af hmA
 clear hmA hfA Ht
 obtain ⟨ho1, hbs1, hnw1⟩ := bG z HMA.out
 have hsz1 := hnw1 (w'.heap.size) (by simp)
 clear hnw1
 obtain ⟨a1, cap1, hv1⟩ := bz HMA.out.st
 have hv1' : vs1 = .slice a1 (r).length cap1 := hv1
 subst hv1'
 clear hv1
 obtain ⟨⟨_, _, _, _, c4, _⟩, _, z4, _⟩ := HMA.out.blk.cells
 have hnl1 : (r).length + 1 ≤ maxLen := by (try simp only [List.length_cons, List.length_nil]); unfold maxLen; omega
 have hnb1 : ((r).length + 1) * 8 ≤ 140737488355328 := by (try simp only [List.length_cons, List.length_nil]); omega
 go_wp2_with (at_builtin; refine wpList_append_own_at _ rfl _ _ 125 rfl lo 2 i0 _ 1 8 Tryz.underlying125 hi hz0 hz1 hz2 rfl (by decide) (.slice a1 (r).length cap1) (r).length (nums (r)) rfl ho1 ⟨w'.heap.size, 0, none⟩ 1 1 [.int .i64 z] rfl rfl hsz1 (bR _) hnl1 hnb1 (by simpa using hbs1) ?_)
 intro v2 W1 hown2 hgrow2 hnil2 hat2
 obtain ⟨g2, cap2, rfl⟩ := bu hown2
 obtain ⟨⟨d4, y4⟩, hm1, hf1⟩ := bg HMA.out hown2 hgrow2 (by simpa using hat2)
 have HM1 := af hm1
 have HF1 := af (HFA.out.trans hf1)
 clear hown2 hgrow2 hnil2 hat2 ho1 hbs1 hsz1 hm1 hf1 c4 z4
 have HR : Hid (MR TR lo x R w _ vo _ _) := ⟨_, _, HM1.out, HF1.out⟩
 go_wp2
 go_ret
 exact ⟨rfl, HR.out⟩
theorem op_21 (n : Int) (v : Value) (h : aK TR lo x R w vs vo s) {a : Int} {r : List Int} (hs : s.st = a :: r) (hl : s.st.length ≤ 50) :
  Calls Tryz.prog 183 #[.pointer (some ⟨R, 0, none⟩), .agg #[.int .i64 21, .int .i64 n, v]] w fun e w' => e = .returned (.int .i64 0) ∧ MR TR lo x R w vs vo w' ⟨s.fu, fy 21 a :: r, s.out⟩ := by
 obtain ⟨i0, hi, hz0, hz1, hz2⟩ := info_parts Tryz.info2E
 have h0 := h.alloc (.cells #[.int .i64 21, .int .i64 n, v] 230)
 have HF0 : Hid (Fr R w vs vo (w.alloc (.cells #[.int .i64 21, .int .i64 n, v] 230)) vs vo) := (Fr.refl _ _ _ _).alloc _
 have HM0 := af h0
 have HX0 := af (aA.new w 21 n v)
 have hrl : r.length ≤ 50 := by rw [hs] at hl; simp at hl; omega
 obtain ⟨fu, st, out⟩ := s
 obtain ⟨z, hz⟩ : ∃ z, fy 21 a = z := ⟨_, rfl⟩
 rw [hz]
 have Ho := af (fun W => rcut_32f a W)
 rw [show a % 4294967296 = fy 21 a from rfl, hz] at Ho
 have Ht : Hid (Calls Tryz.prog 209 #[.pointer (some ⟨R, 0, none⟩)] (w.alloc (.cells #[.int .i64 21, .int .i64 n, v] 230)).drew fun e w' => e = .returned (.int .i64 a) ∧ MR TR lo x R ((w.alloc (.cells #[.int .i64 21, .int .i64 n, v] 230)).drewN 1) vs vo w' ⟨fu, r, out⟩) := bY (h0.drew 1) hs
 clear h h0 hs hl hz
 go_enter Tryz.func183, Tryz.ntmps183
 go_wp2
 go_region_held3 (fun W' => True) (trivial)
  (first
   | (go_at_call 209; refine Ht.out.mono ?_; rintro e w1 ⟨rfl, vs1, vo1, hmA, hfA⟩)
   | (go_at_call 212; refine (Ho.out _).mono ?_; rintro e w' ⟨rfl, rfl⟩))
 have HFA := af ((HF0.out.drew 1).trans hfA)
 have HMA := af hmA
 clear hmA hfA Ht
 obtain ⟨ho1, hbs1, hnw1⟩ := bG z HMA.out
 have hsz1 := hnw1 (w'.heap.size) (by simp)
 clear hnw1
 obtain ⟨a1, cap1, hv1⟩ := bz HMA.out.st
 have hv1' : vs1 = .slice a1 (r).length cap1 := hv1
 subst hv1'
 clear hv1
 obtain ⟨⟨_, _, _, _, c4, _⟩, _, z4, _⟩ := HMA.out.blk.cells
 have hnl1 : (r).length + 1 ≤ maxLen := by (try simp only [List.length_cons, List.length_nil]); unfold maxLen; omega
 have hnb1 : ((r).length + 1) * 8 ≤ 140737488355328 := by (try simp only [List.length_cons, List.length_nil]); omega
 go_wp2_with (at_builtin; refine wpList_append_own_at _ rfl _ _ 125 rfl lo 2 i0 _ 1 8 Tryz.underlying125 hi hz0 hz1 hz2 rfl (by decide) (.slice a1 (r).length cap1) (r).length (nums (r)) rfl ho1 ⟨w'.heap.size, 0, none⟩ 1 1 [.int .i64 z] rfl rfl hsz1 (bR _) hnl1 hnb1 (by simpa using hbs1) ?_)
 intro v2 W1 hown2 hgrow2 hnil2 hat2
 obtain ⟨g2, cap2, rfl⟩ := bu hown2
 obtain ⟨⟨d4, y4⟩, hm1, hf1⟩ := bg HMA.out hown2 hgrow2 (by simpa using hat2)
 have HM1 := af hm1
 have HF1 := af (HFA.out.trans hf1)
 clear hown2 hgrow2 hnil2 hat2 ho1 hbs1 hsz1 hm1 hf1 c4 z4
 have HR : Hid (MR TR lo x R w _ vo _ _) := ⟨_, _, HM1.out, HF1.out⟩
 go_wp2
 go_ret
 exact ⟨rfl, HR.out⟩
theorem op_22 (n : Int) (v : Value) (h : aK TR lo x R w vs vo s) {a : Int} {r : List Int} (hs : s.st = a :: r) (hl : s.st.length ≤ 50) :
  Calls Tryz.prog 183 #[.pointer (some ⟨R, 0, none⟩), .agg #[.int .i64 22, .int .i64 n, v]] w fun e w' => e = .returned (.int .i64 0) ∧ MR TR lo x R w vs vo w' ⟨s.fu, fy 22 a :: r, s.out⟩ := by
 obtain ⟨i0, hi, hz0, hz1, hz2⟩ := info_parts Tryz.info2E
 have h0 := h.alloc (.cells #[.int .i64 22, .int .i64 n, v] 230)
 have HF0 : Hid (Fr R w vs vo (w.alloc (.cells #[.int .i64 22, .int .i64 n, v] 230)) vs vo) := (Fr.refl _ _ _ _).alloc _
 have HM0 := af h0
 have HX0 := af (aA.new w 22 n v)
 have hrl : r.length ≤ 50 := by rw [hs] at hl; simp at hl; omega
 obtain ⟨fu, st, out⟩ := s
 obtain ⟨z, hz⟩ : ∃ z, fy 22 a = z := ⟨_, rfl⟩
 rw [hz]
 have Ho := af (fun W => rcut_8t a W)
 rw [show wrap64 (IntKind.i8.wrap a) = fy 22 a from rfl, hz] at Ho
 have Ht : Hid (Calls Tryz.prog 209 #[.pointer (some ⟨R, 0, none⟩)] (w.alloc (.cells #[.int .i64 22, .int .i64 n, v] 230)).drew fun e w' => e = .returned (.int .i64 a) ∧ MR TR lo x R ((w.alloc (.cells #[.int .i64 22, .int .i64 n, v] 230)).drewN 1) vs vo w' ⟨fu, r, out⟩) := bY (h0.drew 1) hs
 clear h h0 hs hl hz
 go_enter Tryz.func183, Tryz.ntmps183
 go_wp2
 go_region_held3 (fun W' => True) (trivial)
  (first
   | (go_at_call 209; refine Ht.out.mono ?_; rintro e w1 ⟨rfl, vs1, vo1, hmA, hfA⟩)
   | (go_at_call 212; refine (Ho.out _).mono ?_; rintro e w' ⟨rfl, rfl⟩))
 have HFA := af ((HF0.out.drew 1).trans hfA)
 have HMA := af hmA
 clear hmA hfA Ht
 obtain ⟨ho1, hbs1, hnw1⟩ := bG z HMA.out
 have hsz1 := hnw1 (w'.heap.size) (by simp)
 clear hnw1
 obtain ⟨a1, cap1, hv1⟩ := bz HMA.out.st
 have hv1' : vs1 = .slice a1 (r).length cap1 := hv1
 subst hv1'
 clear hv1
 obtain ⟨⟨_, _, _, _, c4, _⟩, _, z4, _⟩ := HMA.out.blk.cells
 have hnl1 : (r).length + 1 ≤ maxLen := by (try simp only [List.length_cons, List.length_nil]); unfold maxLen; omega
 have hnb1 : ((r).length + 1) * 8 ≤ 140737488355328 := by (try simp only [List.length_cons, List.length_nil]); omega
 go_wp2_with (at_builtin; refine wpList_append_own_at _ rfl _ _ 125 rfl lo 2 i0 _ 1 8 Tryz.underlying125 hi hz0 hz1 hz2 rfl (by decide) (.slice a1 (r).length cap1) (r).length (nums (r)) rfl ho1 ⟨w'.heap.size, 0, none⟩ 1 1 [.int .i64 z] rfl rfl hsz1 (bR _) hnl1 hnb1 (by simpa using hbs1) ?_)
 intro v2 W1 hown2 hgrow2 hnil2 hat2
 obtain ⟨g2, cap2, rfl⟩ := bu hown2
 obtain ⟨⟨d4, y4⟩, hm1, hf1⟩ := bg HMA.out hown2 hgrow2 (by simpa using hat2)
 have HM1 := af hm1
 have HF1 := af (HFA.out.trans hf1)
 clear hown2 hgrow2 hnil2 hat2 ho1 hbs1 hsz1 hm1 hf1 c4 z4
 have HR : Hid (MR TR lo x R w _ vo _ _) := ⟨_, _, HM1.out, HF1.out⟩
 go_wp2
 go_ret
 exact ⟨rfl, HR.out⟩
theorem op_23 (n : Int) (v : Value) (h : aK TR lo x R w vs vo s) {a : Int} {r : List Int} (hs : s.st = a :: r) (hl : s.st.length ≤ 50) :
  Calls Tryz.prog 183 #[.pointer (some ⟨R, 0, none⟩), .agg #[.int .i64 23, .int .i64 n, v]] w fun e w' => e = .returned (.int .i64 0) ∧ MR TR lo x R w vs vo w' ⟨s.fu, fy 23 a :: r, s.out⟩ := by
 obtain ⟨i0, hi, hz0, hz1, hz2⟩ := info_parts Tryz.info2E
 have h0 := h.alloc (.cells #[.int .i64 23, .int .i64 n, v] 230)
 have HF0 : Hid (Fr R w vs vo (w.alloc (.cells #[.int .i64 23, .int .i64 n, v] 230)) vs vo) := (Fr.refl _ _ _ _).alloc _
 have HM0 := af h0
 have HX0 := af (aA.new w 23 n v)
 have hrl : r.length ≤ 50 := by rw [hs] at hl; simp at hl; omega
 obtain ⟨fu, st, out⟩ := s
 obtain ⟨z, hz⟩ : ∃ z, fy 23 a = z := ⟨_, rfl⟩
 rw [hz]
 have Ho := af (fun W => rcut_16t a W)
 rw [show wrap64 (IntKind.i16.wrap a) = fy 23 a from rfl, hz] at Ho
 have Ht : Hid (Calls Tryz.prog 209 #[.pointer (some ⟨R, 0, none⟩)] (w.alloc (.cells #[.int .i64 23, .int .i64 n, v] 230)).drew fun e w' => e = .returned (.int .i64 a) ∧ MR TR lo x R ((w.alloc (.cells #[.int .i64 23, .int .i64 n, v] 230)).drewN 1) vs vo w' ⟨fu, r, out⟩) := bY (h0.drew 1) hs
 clear h h0 hs hl hz
 go_enter Tryz.func183, Tryz.ntmps183
 go_wp2
 go_region_held3 (fun W' => True) (trivial)
  (first
   | (go_at_call 209; refine Ht.out.mono ?_; rintro e w1 ⟨rfl, vs1, vo1, hmA, hfA⟩)
   | (go_at_call 212; refine (Ho.out _).mono ?_; rintro e w' ⟨rfl, rfl⟩))
 have HFA := af ((HF0.out.drew 1).trans hfA)
 have HMA := af hmA
 clear hmA hfA Ht
 obtain ⟨ho1, hbs1, hnw1⟩ := bG z HMA.out
 have hsz1 := hnw1 (w'.heap.size) (by simp)
 clear hnw1
 obtain ⟨a1, cap1, hv1⟩ := bz HMA.out.st
 have hv1' : vs1 = .slice a1 (r).length cap1 := hv1
 subst hv1'
 clear hv1
 obtain ⟨⟨_, _, _, _, c4, _⟩, _, z4, _⟩ := HMA.out.blk.cells
 have hnl1 : (r).length + 1 ≤ maxLen := by (try simp only [List.length_cons, List.length_nil]); unfold maxLen; omega
 have hnb1 : ((r).length + 1) * 8 ≤ 140737488355328 := by (try simp only [List.length_cons, List.length_nil]); omega
 go_wp2_with (at_builtin; refine wpList_append_own_at _ rfl _ _ 125 rfl lo 2 i0 _ 1 8 Tryz.underlying125 hi hz0 hz1 hz2 rfl (by decide) (.slice a1 (r).length cap1) (r).length (nums (r)) rfl ho1 ⟨w'.heap.size, 0, none⟩ 1 1 [.int .i64 z] rfl rfl hsz1 (bR _) hnl1 hnb1 (by simpa using hbs1) ?_)
 intro v2 W1 hown2 hgrow2 hnil2 hat2
 obtain ⟨g2, cap2, rfl⟩ := bu hown2
 obtain ⟨⟨d4, y4⟩, hm1, hf1⟩ := bg HMA.out hown2 hgrow2 (by simpa using hat2)
 have HM1 := af hm1
 have HF1 := af (HFA.out.trans hf1)
 clear hown2 hgrow2 hnil2 hat2 ho1 hbs1 hsz1 hm1 hf1 c4 z4
 have HR : Hid (MR TR lo x R w _ vo _ _) := ⟨_, _, HM1.out, HF1.out⟩
 go_wp2
 go_ret
 exact ⟨rfl, HR.out⟩
theorem op_24 (n : Int) (v : Value) (h : aK TR lo x R w vs vo s) {a : Int} {r : List Int} (hs : s.st = a :: r) (hl : s.st.length ≤ 50) :
  Calls Tryz.prog 183 #[.pointer (some ⟨R, 0, none⟩), .agg #[.int .i64 24, .int .i64 n, v]] w fun e w' => e = .returned (.int .i64 0) ∧ MR TR lo x R w vs vo w' ⟨s.fu, fy 24 a :: r, s.out⟩ := by
 obtain ⟨i0, hi, hz0, hz1, hz2⟩ := info_parts Tryz.info2E
 have h0 := h.alloc (.cells #[.int .i64 24, .int .i64 n, v] 230)
 have HF0 : Hid (Fr R w vs vo (w.alloc (.cells #[.int .i64 24, .int .i64 n, v] 230)) vs vo) := (Fr.refl _ _ _ _).alloc _
 have HM0 := af h0
 have HX0 := af (aA.new w 24 n v)
 have hrl : r.length ≤ 50 := by rw [hs] at hl; simp at hl; omega
 obtain ⟨fu, st, out⟩ := s
 obtain ⟨z, hz⟩ : ∃ z, fy 24 a = z := ⟨_, rfl⟩
 rw [hz]
 have Ho := af (fun W => rcut_32t a W)
 rw [show wrap64 (wrap32 a) = fy 24 a from rfl, hz] at Ho
 have Ht : Hid (Calls Tryz.prog 209 #[.pointer (some ⟨R, 0, none⟩)] (w.alloc (.cells #[.int .i64 24, .int .i64 n, v] 230)).drew fun e w' => e = .returned (.int .i64 a) ∧ MR TR lo x R ((w.alloc (.cells #[.int .i64 24, .int .i64 n, v] 230)).drewN 1) vs vo w' ⟨fu, r, out⟩) := bY (h0.drew 1) hs
 clear h h0 hs hl hz
 go_enter Tryz.func183, Tryz.ntmps183
 go_wp2
 go_region_held3 (fun W' => True) (trivial)
  (first
   | (go_at_call 209; refine Ht.out.mono ?_; rintro e w1 ⟨rfl, vs1, vo1, hmA, hfA⟩)
   | (go_at_call 212; refine (Ho.out _).mono ?_; rintro e w' ⟨rfl, rfl⟩))
 have HFA := af ((HF0.out.drew 1).trans hfA)
 have HMA := af hmA
 clear hmA hfA Ht
 obtain ⟨ho1, hbs1, hnw1⟩ := bG z HMA.out
 have hsz1 := hnw1 (w'.heap.size) (by simp)
 clear hnw1
 obtain ⟨a1, cap1, hv1⟩ := bz HMA.out.st
 have hv1' : vs1 = .slice a1 (r).length cap1 := hv1
 subst hv1'
 clear hv1
 obtain ⟨⟨_, _, _, _, c4, _⟩, _, z4, _⟩ := HMA.out.blk.cells
 have hnl1 : (r).length + 1 ≤ maxLen := by (try simp only [List.length_cons, List.length_nil]); unfold maxLen; omega
 have hnb1 : ((r).length + 1) * 8 ≤ 140737488355328 := by (try simp only [List.length_cons, List.length_nil]); omega
 go_wp2_with (at_builtin; refine wpList_append_own_at _ rfl _ _ 125 rfl lo 2 i0 _ 1 8 Tryz.underlying125 hi hz0 hz1 hz2 rfl (by decide) (.slice a1 (r).length cap1) (r).length (nums (r)) rfl ho1 ⟨w'.heap.size, 0, none⟩ 1 1 [.int .i64 z] rfl rfl hsz1 (bR _) hnl1 hnb1 (by simpa using hbs1) ?_)
 intro v2 W1 hown2 hgrow2 hnil2 hat2
 obtain ⟨g2, cap2, rfl⟩ := bu hown2
 obtain ⟨⟨d4, y4⟩, hm1, hf1⟩ := bg HMA.out hown2 hgrow2 (by simpa using hat2)
 have HM1 := af hm1
 have HF1 := af (HFA.out.trans hf1)
 clear hown2 hgrow2 hnil2 hat2 ho1 hbs1 hsz1 hm1 hf1 c4 z4
 have HR : Hid (MR TR lo x R w _ vo _ _) := ⟨_, _, HM1.out, HF1.out⟩
 go_wp2
 go_ret
 exact ⟨rfl, HR.out⟩
end
section
variable {lo : Nat} {x : Rc} {R : Nat} {w : World} {vs vo : Value} {s : St}
theorem op_25 (n : Int) (v : Value) (h : aK TR lo x R w vs vo s) {a : Int} {r : List Int} (hs : s.st = a :: r) (hl : s.st.length ≤ 50) :
  Calls Tryz.prog 183 #[.pointer (some ⟨R, 0, none⟩), .agg #[.int .i64 25, .int .i64 n, v]] w fun e w' => e = .returned (.int .i64 0) ∧ MR TR lo x R w vs vo w' ⟨s.fu, a :: a :: r, s.out⟩ := by
 obtain ⟨i0, hi, hz0, hz1, hz2⟩ := info_parts Tryz.info2E
 have h0 := h.alloc (.cells #[.int .i64 25, .int .i64 n, v] 230)
 have HF0 : Hid (Fr R w vs vo (w.alloc (.cells #[.int .i64 25, .int .i64 n, v] 230)) vs vo) := (Fr.refl _ _ _ _).alloc _
 have HM0 := af h0
 have HX0 := af (aA.new w 25 n v)
 have hrl : r.length ≤ 50 := by rw [hs] at hl; simp at hl; omega
 have Ht := af (bY h0 hs)
 obtain ⟨fu, st, out⟩ := s
 clear h h0 hs hl
 go_enter Tryz.func183, Tryz.ntmps183
 go_wp2_with fail
 refine Ht.out.mono ?_
 rintro e w1 ⟨rfl, vs1, vo1, hmA, hfA⟩
 have HFA := af (HF0.out.trans hfA)
 have HMA := af hmA
 clear hmA hfA Ht
 obtain ⟨ho1, hbs1, hnw1⟩ := bG a HMA.out
 have hsz1 := hnw1 (w1.heap.size) (by simp)
 clear hnw1
 obtain ⟨a1, cap1, hv1⟩ := bz HMA.out.st
 have hv1' : vs1 = .slice a1 (r).length cap1 := hv1
 subst hv1'
 clear hv1
 obtain ⟨⟨_, _, _, _, c4, _⟩, _, z4, _⟩ := HMA.out.blk.cells
 have hnl1 : (r).length + 1 ≤ maxLen := by (try simp only [List.length_cons, List.length_nil]); unfold maxLen; omega
 have hnb1 : ((r).length + 1) * 8 ≤ 140737488355328 := by (try simp only [List.length_cons, List.length_nil]); omega
 go_wp2_with (at_builtin; refine wpList_append_own_at _ rfl _ _ 125 rfl lo 2 i0 _ 1 8 Tryz.underlying125 hi hz0 hz1 hz2 rfl (by decide) (.slice a1 (r).length cap1) (r).length (nums (r)) rfl ho1 ⟨w1.heap.size, 0, none⟩ 1 1 [.int .i64 a] rfl rfl hsz1 (bR _) hnl1 hnb1 (by simpa using hbs1) ?_)
 intro v2 W1 hown2 hgrow2 hnil2 hat2
 obtain ⟨g2, cap2, rfl⟩ := bu hown2
 obtain ⟨⟨d4, y4⟩, hm1, hf1⟩ := bg HMA.out hown2 hgrow2 (by simpa using hat2)
 have HM1 := af hm1
 have HF1 := af (HFA.out.trans hf1)
 clear hown2 hgrow2 hnil2 hat2 ho1 hbs1 hsz1 hm1 hf1 c4 z4
 obtain ⟨ho2, hbs2, hnw2⟩ := bG a HM1.out
 have hsz2 := hnw2 W1.heap.size (by simp)
 have ho2' : ((W1.setCell ⟨R, 4, none⟩ (.slice (some ⟨g2, 0, none⟩) (r.length + 1) cap2)).alloc (.cells #[.int .i64 a] 2)).ownsRow lo 2 1 (.slice (some ⟨g2, 0, none⟩) (r.length + 1) cap2) (r.length + 1) (nums (a :: r)) := ho2
 have hbs2' : lo ≤ W1.heap.size + 1 := by simpa using hbs2
 have hnl2 : r.length + 1 + 1 ≤ maxLen := by unfold maxLen; omega
 have hnb2 : (r.length + 1 + 1) * 8 ≤ 140737488355328 := by omega
 clear hnw2 ho2 hbs2
 go_wp2_with (at_builtin; refine wpList_append_own_at _ rfl _ _ 125 rfl lo 2 i0 _ 1 8 Tryz.underlying125 hi hz0 hz1 hz2 rfl (by decide) (.slice (some ⟨g2, 0, none⟩) (r.length + 1) cap2) (r.length + 1) (nums (a :: r)) rfl ho2' ⟨W1.heap.size, 0, none⟩ 1 1 [.int .i64 a] rfl rfl hsz2 (bR _) hnl2 hnb2 (by simpa using hbs2') ?_)
 intro v3 W2 hown3 hgrow3 hnil3 hat3
 obtain ⟨g3, cap3, rfl⟩ := bu hown3
 obtain ⟨⟨d4', y4'⟩, hm2, hf2⟩ := bg HM1.out (by simpa [nums] using hown3) hgrow3 (by simpa using hat3)
 have HM2 := af hm2
 have HF2 := af (HF1.out.trans hf2)
 clear hown3 hgrow3 hnil3 hat3 ho2' hbs2' hsz2 hm2 hf2 d4 y4
 have HR : Hid (MR TR lo x R w _ vo _ _) := ⟨_, _, HM2.out, HF2.out⟩
 go_wp2
 go_ret
 exact ⟨rfl, HR.out⟩
theorem op_26 (n : Int) (v : Value) (h : aK TR lo x R w vs vo s) {a b : Int} {r : List Int} (hs : s.st = a :: b :: r) (hl : s.st.length ≤ 50) :
  Calls Tryz.prog 183 #[.pointer (some ⟨R, 0, none⟩), .agg #[.int .i64 26, .int .i64 n, v]] w fun e w' => e = .returned (.int .i64 0) ∧ MR TR lo x R w vs vo w' ⟨s.fu, b :: a :: r, s.out⟩ := by
 obtain ⟨i0, hi, hz0, hz1, hz2⟩ := info_parts Tryz.info2E
 have h0 := h.alloc (.cells #[.int .i64 26, .int .i64 n, v] 230)
 have HF0 : Hid (Fr R w vs vo (w.alloc (.cells #[.int .i64 26, .int .i64 n, v] 230)) vs vo) := (Fr.refl _ _ _ _).alloc _
 have HM0 := af h0
 have HX0 := af (aA.new w 26 n v)
 have hrl : r.length ≤ 50 := by rw [hs] at hl; simp at hl; omega
 have Ht := af (bY h0 hs)
 obtain ⟨fu, st, out⟩ := s
 clear h h0 hs hl
 go_enter Tryz.func183, Tryz.ntmps183
 go_wp2_with fail
 refine Ht.out.mono ?_
 rintro e w1 ⟨rfl, vsA, voA, hmA, hfA⟩
 have HFA := af (HF0.out.trans hfA)
 have HtA := af (bY hmA rfl)
 have hbA := (HM0.out.boxO hfA HX0.out).cells
 obtain ⟨b0, b1, b2⟩ := hbA
 clear hmA hfA Ht
 go_wp2_with fail
 refine HtA.out.mono ?_
 rintro e w2 ⟨rfl, vs1, vo1, hmB, hfB⟩
 have HFB := af (HFA.out.trans hfB)
 have HMB := af hmB
 clear hmB hfB HtA b0 b1 b2
 obtain ⟨ho1, hbs1, hnw1⟩ := bG a HMB.out
 have hsz1 := hnw1 (w2.heap.size) (by simp)
 clear hnw1
 obtain ⟨a1, cap1, hv1⟩ := bz HMB.out.st
 have hv1' : vs1 = .slice a1 (r).length cap1 := hv1
 subst hv1'
 clear hv1
 obtain ⟨⟨_, _, _, _, c4, _⟩, _, z4, _⟩ := HMB.out.blk.cells
 have hnl1 : (r).length + 1 ≤ maxLen := by (try simp only [List.length_cons, List.length_nil]); unfold maxLen; omega
 have hnb1 : ((r).length + 1) * 8 ≤ 140737488355328 := by (try simp only [List.length_cons, List.length_nil]); omega
 go_wp2_with (at_builtin; refine wpList_append_own_at _ rfl _ _ 125 rfl lo 2 i0 _ 1 8 Tryz.underlying125 hi hz0 hz1 hz2 rfl (by decide) (.slice a1 (r).length cap1) (r).length (nums (r)) rfl ho1 ⟨w2.heap.size, 0, none⟩ 1 1 [.int .i64 a] rfl rfl hsz1 (bR _) hnl1 hnb1 (by simpa using hbs1) ?_)
 intro v2 W1 hown2 hgrow2 hnil2 hat2
 obtain ⟨g2, cap2, rfl⟩ := bu hown2
 obtain ⟨⟨d4, y4⟩, hm1, hf1⟩ := bg HMB.out hown2 hgrow2 (by simpa using hat2)
 have HM1 := af hm1
 have HF1 := af (HFB.out.trans hf1)
 clear hown2 hgrow2 hnil2 hat2 ho1 hbs1 hsz1 hm1 hf1 c4 z4
 obtain ⟨ho2, hbs2, hnw2⟩ := bG b HM1.out
 have hsz2 := hnw2 W1.heap.size (by simp)
 have ho2' : ((W1.setCell ⟨R, 4, none⟩ (.slice (some ⟨g2, 0, none⟩) (r.length + 1) cap2)).alloc (.cells #[.int .i64 b] 2)).ownsRow lo 2 1 (.slice (some ⟨g2, 0, none⟩) (r.length + 1) cap2) (r.length + 1) (nums (a :: r)) := ho2
 have hbs2' : lo ≤ W1.heap.size + 1 := by simpa using hbs2
 have hnl2 : r.length + 1 + 1 ≤ maxLen := by unfold maxLen; omega
 have hnb2 : (r.length + 1 + 1) * 8 ≤ 140737488355328 := by omega
 clear hnw2 ho2 hbs2
 go_wp2_with (at_builtin; refine wpList_append_own_at _ rfl _ _ 125 rfl lo 2 i0 _ 1 8 Tryz.underlying125 hi hz0 hz1 hz2 rfl (by decide) (.slice (some ⟨g2, 0, none⟩) (r.length + 1) cap2) (r.length + 1) (nums (a :: r)) rfl ho2' ⟨W1.heap.size, 0, none⟩ 1 1 [.int .i64 b] rfl rfl hsz2 (bR _) hnl2 hnb2 (by simpa using hbs2') ?_)
 intro v3 W2 hown3 hgrow3 hnil3 hat3
 obtain ⟨g3, cap3, rfl⟩ := bu hown3
 obtain ⟨⟨d4', y4'⟩, hm2, hf2⟩ := bg HM1.out (by simpa [nums] using hown3) hgrow3 (by simpa using hat3)
 have HM2 := af hm2
 have HF2 := af (HF1.out.trans hf2)
 clear hown3 hgrow3 hnil3 hat3 ho2' hbs2' hsz2 hm2 hf2 d4 y4
 have HR : Hid (MR TR lo x R w _ vo _ _) := ⟨_, _, HM2.out, HF2.out⟩
 go_wp2
 go_ret
 exact ⟨rfl, HR.out⟩
theorem op_27 (n : Int) (v : Value) (h : aK TR lo x R w vs vo s) {a : Int} {r : List Int} (hs : s.st = a :: r) (hl : s.st.length ≤ 50) :
  Calls Tryz.prog 183 #[.pointer (some ⟨R, 0, none⟩), .agg #[.int .i64 27, .int .i64 n, v]] w fun e w' => e = .returned (.int .i64 0) ∧ MR TR lo x R w vs vo w' ⟨s.fu, r, s.out⟩ := by
 obtain ⟨i0, hi, hz0, hz1, hz2⟩ := info_parts Tryz.info2E
 have h0 := h.alloc (.cells #[.int .i64 27, .int .i64 n, v] 230)
 have HF0 : Hid (Fr R w vs vo (w.alloc (.cells #[.int .i64 27, .int .i64 n, v] 230)) vs vo) := (Fr.refl _ _ _ _).alloc _
 have HM0 := af h0
 have HX0 := af (aA.new w 27 n v)
 have Ht := af (bY h0 hs)
 obtain ⟨fu, st, out⟩ := s
 clear h h0 hs hl
 go_enter Tryz.func183, Tryz.ntmps183
 go_wp2_with fail
 refine Ht.out.mono ?_
 rintro e w1 ⟨rfl, vs1, vo1, hmA, hfA⟩
 have HFA := af (HF0.out.trans hfA)
 have HMA := af hmA
 clear hmA hfA Ht
 have HR : Hid (MR TR lo x R w _ vo _ _) := ⟨_, _, HMA.out, HFA.out⟩
 go_wp2
 go_ret
 exact ⟨rfl, HR.out⟩
end
section
variable {lo : Nat} {x : Rc} {R : Nat} {w : World} {vs vo : Value} {s : St}
theorem op_30 (n : Int) (v : Value) {a b : Int} {r : List Int} (h : aK TR lo x R w vs vo s) (hs : s.st = a :: b :: r) (ho : s.out.length ≤ 256) :
  Calls Tryz.prog 183 #[.pointer (some ⟨R, 0, none⟩), .agg #[.int .i64 30, .int .i64 n, v]] w fun e w' => EmR TR lo x R w vs vo s a b r e w' := by
 obtain ⟨i0, hi, hz0, hz1, hz2⟩ := info_parts Tryz.infoRec
 have h0 := h.alloc (.cells #[.int .i64 30, .int .i64 n, v] 230)
 have HF0 : Hid (Fr R w vs vo (w.alloc (.cells #[.int .i64 30, .int .i64 n, v] 230)) vs vo) := (Fr.refl _ _ _ _).alloc _
 have HM := af h
 have Ht := af (bY h0 hs)
 clear h h0 hs
 go_enter Tryz.func183, Tryz.ntmps183
 go_wp2_with fail
 refine Ht.out.mono ?_
 rintro e w1 ⟨rfl, vsA, voA, hmA, hfA⟩
 have HFA := af (HF0.out.trans hfA)
 have HtA := af (bY hmA rfl)
 clear hmA hfA Ht
 go_wp2_with fail
 refine HtA.out.mono ?_
 rintro e w2 ⟨rfl, vs2, vo2, hm2, hfB⟩
 have HFB := af (HFA.out.trans hfB)
 have HMB := af hm2
 obtain ⟨⟨c0, c1, c2, c3, c4, c5⟩, z3, z4, z5⟩ := hm2.blk.cells
 obtain ⟨ao2, capo2, hvo2⟩ := bz hm2.out
 have hvo2' : vo2 = .slice ao2 s.out.length capo2 := hvo2
 subst hvo2'
 have ho2 : w2.ownsRow lo 155 3 (.slice ao2 s.out.length capo2) s.out.length (aP s.out) := hm2.out
 have hRl := hm2.blk.lt
 have hlo := hm2.lw
 have h63 : s.out.length + 1 ≤ maxLen := by unfold maxLen; omega
 have hby : (s.out.length + 1) * 32 ≤ 140737488355328 := by omega
 have hbs : lo ≤ w2.heap.size + 1 := by omega
 clear hm2 hfB hvo2 HtA
 by_cases h256 : s.out.length = 256
 ·have HC : Hid (EmR TR lo x R w vs vo s a b r (.returned (.int .i64 2)) w2) := .inl ⟨h256, rfl, HM.out.below HFB.out⟩
  rw [h256] at c5
  clear h256
  go_wp2
  go_ret
  exact HC.out
 ·have hne : ((s.out.length : Int) == 256) = false := beq_eq_false_iff_ne.2 (by omega)
  have HN := af h256
  clear h256
  go_wp2
  refine wp_region_any (by kernel_rfl) ?_
  change wpAny _ _ _ _ _ _ _ (World.drew _)
  refine wpAny_take (i := 0) (v := ?v0x1) rfl (by kernel_rfl) (by kernel_rfl) (by kernel_rfl) (fun _ _ _ h => h) (Or.inl ⟨by rfl, ?h0x1⟩) ?r0x1
  case h0x1 => (intro W; go_simp; try with_reducible rfl)
  refine wpAny_take (i := 1) (v := ?v1x2) rfl (by kernel_rfl) (by kernel_rfl) (by kernel_rfl) (fun _ _ _ h => h) (Or.inl ⟨by rfl, ?h1x2⟩) ?r1x2
  case h1x2 => (intro W; go_simp; try with_reducible rfl)
  refine wpAny_take (i := 2) (v := ?v2x3) rfl (by kernel_rfl) (by kernel_rfl) (by kernel_rfl) (fun _ _ _ h => h) (Or.inl ⟨by rfl, ?h2x3⟩) ?r2x3
  case h2x3 => (intro W; go_simp; try with_reducible rfl)
  refine wpAny_take (i := 3) (v := ?v3x4) rfl (by kernel_rfl) (by kernel_rfl) (by kernel_rfl) (fun _ _ _ h => h) (Or.inl ⟨by rfl, ?h3x4⟩) ?r3x4
  case h3x4 => (intro W; go_simp; try with_reducible rfl)
  refine wpAny_take (i := 5) (v := ?v5x5) rfl (by kernel_rfl) (by kernel_rfl) (by kernel_rfl) (fun _ _ _ h => h) (Or.inl ⟨by rfl, ?h5x5⟩) ?r5x5
  case h5x5 => (intro W; go_simp; try with_reducible rfl)
  refine wpAny_take (i := 6) (v := ?v6x6) rfl (by kernel_rfl) (by kernel_rfl) (by kernel_rfl) (fun _ _ _ h => h) (Or.inl ⟨by rfl, ?h6x6⟩) ?r6x6
  case h6x6 => (intro W; go_simp; try with_reducible rfl)
  refine wpAny_take (i := 7) (v := ?v7x7) rfl (by kernel_rfl) (by kernel_rfl) (by kernel_rfl) (fun _ _ _ h => h) (Or.inl ⟨by rfl, ?h7x7⟩) ?r7x7
  case h7x7 => (intro W; go_simp; try with_reducible rfl)
  refine wpAny_take (i := 8) (v := ?v8x8) rfl (by kernel_rfl) (by kernel_rfl) (by kernel_rfl) (fun _ _ _ h => h) (Or.inl ⟨by rfl, ?h8x8⟩) ?r8x8
  case h8x8 => (intro W; go_simp; try with_reducible rfl)
  refine wpAny_take (i := 9) (v := ?v9x9) rfl (by kernel_rfl) (by kernel_rfl) (by kernel_rfl) (fun _ _ _ h => h) (Or.inl ⟨by rfl, ?h9x9⟩) ?r9x9
  case h9x9 => (intro W; go_simp; try with_reducible rfl)
  refine wpAny_take (i := 10) (v := ?v10x10) rfl (by kernel_rfl) (by kernel_rfl) (by kernel_rfl) (fun _ _ _ h => h) (Or.inl ⟨by rfl, ?h10x10⟩) ?r10x10
  case h10x10 => (intro W; go_simp; try with_reducible rfl)
  refine wpAny_take (i := 13) (v := ?v13x11) rfl (by kernel_rfl) (by kernel_rfl) (by kernel_rfl) (fun _ _ _ h => h) (Or.inl ⟨by rfl, ?h13x11⟩) ?r13x11
  case h13x11 => (intro W; go_simp; try with_reducible rfl)
  refine wpAny_ready (rs := [4, 11]) (by kernel_rfl) (by simp) ?_
  refine AllReady.cons rfl (fun K hK => ?_) (AllReady.cons rfl (fun K hK => ?_) AllReady.nil)
  ·go_simp
   refine hK _ _ ?_
   clear hK K
   refine wpAny_ready (rs := [11]) (by kernel_rfl) (by simp) ?_
   refine AllReady.cons rfl (fun K hK => ?_) AllReady.nil
   go_simp
   refine hK _ _ ?_
   clear hK K
   refine wpAny_take (i := 12) (v := ?v12x12) rfl (by kernel_rfl) (by kernel_rfl) (by kernel_rfl) (fun _ _ _ h => h) (Or.inl ⟨by rfl, ?h12x12⟩) ?r12x12
   case h12x12 => (intro W; go_simp; try with_reducible rfl)
   refine wpAny_take (i := 14) (v := ?v14x13) rfl (by kernel_rfl) (by kernel_rfl) (by kernel_rfl) (fun _ _ _ h => h) (Or.inl ⟨by rfl, ?h14x13⟩) ?r14x13
   case h14x13 => (intro W; go_simp; try with_reducible rfl)
   refine wpAny_ready (rs := [15]) (by kernel_rfl) (by simp) ?_
   refine AllReady.cons rfl (fun K hK => ?_) AllReady.nil
   go_simp
   refine hK _ _ ?_
   clear hK K
   refine wpAny_ready (rs := [16]) (by kernel_rfl) (by simp) ?_
   refine AllReady.cons rfl (fun K hK => ?_) AllReady.nil
   refine step_append_lies _ (by rfl) _ _ _ (by rfl) lo 155 i0 _ 3 32 Tryz.underlying97 hi hz0 hz1 hz2 rfl (by decide) _ _ _ (by rfl) (ho2.alloc _) _ 1 1 [.int .i64 b, .string x.1.2, .int .i64 a] (by rfl) (by rfl) (lk (new3 _ _ _ _ _)) (dA _ _ _) (by decide) h63 hby (by simpa using hbs) _ rfl ?_
   intro gg cap2 w3 hown3 hgrow3 hat3 hlt3
   obtain ⟨d5, y5, d1⟩ := (HMB.out.drew 1).after5 hgrow3
   have HR := af (io (HMB.out.drew 1) hown3 hgrow3 hat3)
   clear hown3 hgrow3 hat3 hlt3
   refine hK _ _ ?_
   clear hK K
   refine wpAny_take (i := 17) (v := ?v17x14) rfl (by kernel_rfl) (by kernel_rfl) (by kernel_rfl) (fun _ _ _ h => h) (Or.inl ⟨by rfl, ?h17x14⟩) ?r17x14
   case h17x14 => (intro W; go_simp; try with_reducible rfl)
   refine wpAny_take (i := 18) (v := ?v18x15) rfl (by kernel_rfl) (by kernel_rfl) (by kernel_rfl) (fun _ _ _ h => h) (Or.inl ⟨by rfl, ?h18x15⟩) ?r18x15
   case h18x15 => (intro W; go_simp; try with_reducible rfl)
   refine wpAny_ready (rs := [19]) (by kernel_rfl) (by simp) ?_
   refine AllReady.cons rfl (fun K hK => ?_) AllReady.nil
   go_simp
   refine hK _ _ ?_
   clear hK K
   refine wpAny_done (by kernel_rfl) ?_ _
   go_wp2
   go_ret
   exact .inr ⟨HN.out, rfl, MR.step (HFB.out.drew 1) HR.out⟩
  ·go_simp
   refine hK _ _ ?_
   clear hK K
   refine wpAny_take (i := 12) (v := ?v12x20) rfl (by kernel_rfl) (by kernel_rfl) (by kernel_rfl) (fun _ _ _ h => h) (Or.inl ⟨by rfl, ?h12x20⟩) ?r12x20
   case h12x20 => (intro W; go_simp; try with_reducible rfl)
   refine wpAny_take (i := 14) (v := ?v14x21) rfl (by kernel_rfl) (by kernel_rfl) (by kernel_rfl) (fun _ _ _ h => h) (Or.inl ⟨by rfl, ?h14x21⟩) ?r14x21
   case h14x21 => (intro W; go_simp; try with_reducible rfl)
   refine wpAny_ready (rs := [4, 15]) (by kernel_rfl) (by simp) ?_
   refine AllReady.cons rfl (fun K hK => ?_) (AllReady.cons rfl (fun K hK => ?_) AllReady.nil)
   ·go_simp
    refine hK _ _ ?_
    clear hK K
    refine wpAny_ready (rs := [15]) (by kernel_rfl) (by simp) ?_
    refine AllReady.cons rfl (fun K hK => ?_) AllReady.nil
    go_simp
    refine hK _ _ ?_
    clear hK K
    refine wpAny_ready (rs := [16]) (by kernel_rfl) (by simp) ?_
    refine AllReady.cons rfl (fun K hK => ?_) AllReady.nil
    refine step_append_lies _ (by rfl) _ _ _ (by rfl) lo 155 i0 _ 3 32 Tryz.underlying97 hi hz0 hz1 hz2 rfl (by decide) _ _ _ (by rfl) (ho2.alloc _) _ 1 1 [.int .i64 b, .string x.1.2, .int .i64 a] (by rfl) (by rfl) (lk (new3 _ _ _ _ _)) (dA _ _ _) (by decide) h63 hby (by simpa using hbs) _ rfl ?_
    intro gg cap2 w3 hown3 hgrow3 hat3 hlt3
    obtain ⟨d5, y5, d1⟩ := (HMB.out.drew 1).after5 hgrow3
    have HR := af (io (HMB.out.drew 1) hown3 hgrow3 hat3)
    clear hown3 hgrow3 hat3 hlt3
    refine hK _ _ ?_
    clear hK K
    refine wpAny_take (i := 17) (v := ?v17x16) rfl (by kernel_rfl) (by kernel_rfl) (by kernel_rfl) (fun _ _ _ h => h) (Or.inl ⟨by rfl, ?h17x16⟩) ?r17x16
    case h17x16 => (intro W; go_simp; try with_reducible rfl)
    refine wpAny_take (i := 18) (v := ?v18x17) rfl (by kernel_rfl) (by kernel_rfl) (by kernel_rfl) (fun _ _ _ h => h) (Or.inl ⟨by rfl, ?h18x17⟩) ?r18x17
    case h18x17 => (intro W; go_simp; try with_reducible rfl)
    refine wpAny_ready (rs := [19]) (by kernel_rfl) (by simp) ?_
    refine AllReady.cons rfl (fun K hK => ?_) AllReady.nil
    go_simp
    refine hK _ _ ?_
    clear hK K
    refine wpAny_done (by kernel_rfl) ?_ _
    go_wp2
    go_ret
    exact .inr ⟨HN.out, rfl, MR.step (HFB.out.drew 1) HR.out⟩
   ·go_simp
    refine hK _ _ ?_
    clear hK K
    refine wpAny_ready (rs := [4]) (by kernel_rfl) (by simp) ?_
    refine AllReady.cons rfl (fun K hK => ?_) AllReady.nil
    go_simp
    refine hK _ _ ?_
    clear hK K
    refine wpAny_ready (rs := [16]) (by kernel_rfl) (by simp) ?_
    refine AllReady.cons rfl (fun K hK => ?_) AllReady.nil
    refine step_append_lies _ (by rfl) _ _ _ (by rfl) lo 155 i0 _ 3 32 Tryz.underlying97 hi hz0 hz1 hz2 rfl (by decide) _ _ _ (by rfl) (ho2.alloc _) _ 1 1 [.int .i64 b, .string x.1.2, .int .i64 a] (by rfl) (by rfl) (lk (new3 _ _ _ _ _)) (dA _ _ _) (by decide) h63 hby (by simpa using hbs) _ rfl ?_
    intro gg cap2 w3 hown3 hgrow3 hat3 hlt3
    obtain ⟨d5, y5, d1⟩ := (HMB.out.drew 1).after5 hgrow3
    have HR := af (io (HMB.out.drew 1) hown3 hgrow3 hat3)
    clear hown3 hgrow3 hat3 hlt3
    refine hK _ _ ?_
    clear hK K
    refine wpAny_take (i := 17) (v := ?v17x18) rfl (by kernel_rfl) (by kernel_rfl) (by kernel_rfl) (fun _ _ _ h => h) (Or.inl ⟨by rfl, ?h17x18⟩) ?r17x18
    case h17x18 => (intro W; go_simp; try with_reducible rfl)
    refine wpAny_take (i := 18) (v := ?v18x19) rfl (by kernel_rfl) (by kernel_rfl) (by kernel_rfl) (fun _ _ _ h => h) (Or.inl ⟨by rfl, ?h18x19⟩) ?r18x19
    case h18x19 => (intro W; go_simp; try with_reducible rfl)
    refine wpAny_ready (rs := [19]) (by kernel_rfl) (by simp) ?_
    refine AllReady.cons rfl (fun K hK => ?_) AllReady.nil
    go_simp
    refine hK _ _ ?_
    clear hK K
    refine wpAny_done (by kernel_rfl) ?_ _
    go_wp2
    go_ret
    exact .inr ⟨HN.out, rfl, MR.step (HFB.out.drew 1) HR.out⟩
end
def ListR' (B : Nat) (f : Fo) : Prop := ∀ (v : Value) (w : World) (lo : Nat) (x : Rc) (R : Nat) (vs vo : Value) (s : St) (d : Nat) (h fl m l p : Int), FS (QB B) w v f → f.len ≤ 3518437208780 → jo f → eZ f d = true →
 nd f h fl m = some (l, p) → 0 ≤ fl → fl ≤ h → h ≤ m → m ≤ 16 → aK TR lo x R w vs vo s → Ok h s → s.fu ≤ 2000 → B ≤ lo → x.1.2.size ≤ 64 →
 Calls Tryz.prog 141 #[.pointer (some ⟨R, 0, none⟩), v] w fun e w' => bC TR lo x R w vs vo (ev x f s) e w'
theorem op_B (B : Nat) (b : Fo) (IH : ListR' B b) (k n : Int) (v : Value) (w : World) (lo : Nat) (x : Rc) (R : Nat) (vs vo : Value) (s : St) (d : Nat) (a : Int) (r : List Int) (m p : Int)
  (hf : FS (QB B) w v b) (hl : b.len ≤ 3518437208780) (hwf : jo b) (hok : eZ b d = true) (hs : s.st = a :: r) (hnd : nd b (r.length : Int) (r.length : Int) m = some ((r.length : Int), p)) (h1 : (r.length : Int) ≤ m) (h2 : m ≤ 16)
  (hM : aK TR lo x R w vs vo s) (hout : s.out.length ≤ 256) (hfu : s.fu ≤ 2000) (hB : B ≤ lo) (hx : x.1.2.size ≤ 64) (hk : k = 28 ∨ k = 29) :
  Calls Tryz.prog 183 #[.pointer (some ⟨R, 0, none⟩), .agg #[.int .i64 k, .int .i64 n, v]] w fun e w' => bC TR lo x R w vs vo (iA (ev x b) (often k a) ⟨s.fu, r, s.out⟩) e w' := by
 have hM0 := hM.alloc (.cells #[.int .i64 k, .int .i64 n, v] 230)
 have hbx0 := aA.new w k n v
 have Ht := af (bY hM0 hs)
 have HM0 := af hM0
 have HM := af hM
 have HX0 := af hbx0
 have hF0 : Fr R w vs vo (w.alloc (.cells #[.int .i64 k, .int .i64 n, v] 230)) vs vo := (Fr.refl _ _ _ _).alloc _
 have HF0 := af hF0
 have HFS := af hf
 have Hwf := af hwf
 have HIH := af IH
 have HND := af hnd
 obtain ⟨av, cap, rfl⟩ := hf.val
 have hbl := hM.blk.lt
 have hlw := hM.lw
 clear hM hM0 hbx0 hf hF0 hwf IH hnd
 obtain ⟨N, hN⟩ : ∃ N, often k a = N := ⟨_, rfl⟩
 rw [hN]
 have HNN := af hN
 clear hN
 rcases hk with rfl | rfl
 ·by_cases ha : a = 0
  ·subst ha
   have hN0 : N = 0 := by rw [← HNN.out]; rfl
   subst hN0
   clear HNN
   obtain ⟨Q, hQ⟩ : ∃ Q, iA (ev x b) 0 ⟨s.fu, r, s.out⟩ = Q := ⟨_, rfl⟩
   rw [hQ]
   have HQ := af hQ
   clear hQ
   go_enter Tryz.func183, Tryz.ntmps183
   go_wp2_with fail
   refine Ht.out.mono ?_
   rintro e w1 ⟨rfl, vs1, vo1, hm1, hf1⟩
   obtain ⟨b0, b1, b2⟩ := (HM0.out.boxO hf1 HX0.out).cells
   have HR : Hid (bC TR lo x R w vs vo Q (.returned (.int .i64 0)) w1) := .inr ⟨_, HQ.out.symm, rfl, _, _, hm1, HF0.out.trans hf1⟩
   clear hm1 hf1
   go_wp2
   go_ret
   exact HR.out
  ·have hN1 : N = 1 := by rw [← HNN.out]; unfold often; rw [if_pos rfl, if_neg ha]
   subst hN1
   have hne : (a == 0) = false := beq_eq_false_iff_ne.2 ha
   have hne2 : (a != 0) = true := by simpa using ha
   obtain ⟨Q, hQ⟩ : ∃ Q, iA (ev x b) 1 ⟨s.fu, r, s.out⟩ = Q := ⟨_, rfl⟩
   rw [hQ]
   have hQ2 : ev x b ⟨s.fu, r, s.out⟩ = Q := by
    rw [← hQ]
    cases hg : ev x b ⟨s.fu, r, s.out⟩ with
    | err c => rw [lV hg]
    | ok s' => rw [rep_ok hg]; rfl
   have HQ := af hQ2
   clear hQ hQ2 HNN ha
   go_enter Tryz.func183, Tryz.ntmps183
   go_wp2_with fail
   refine Ht.out.mono ?_
   rintro e w1 ⟨rfl, vs1, vo1, hm1, hf1⟩
   obtain ⟨b0, b1, b2⟩ := (HM0.out.boxO hf1 HX0.out).cells
   have HF1 := af (HF0.out.trans hf1)
   have hfs1 := HFS.out.belowB ((HM.out.below HF1.out).mono hB)
   have hc := HIH.out _ w1 lo x R vs1 vo1 ⟨s.fu, r, s.out⟩ d _ _ m _ _ hfs1 hl Hwf.out hok HND.out (by omega) (by omega) h1 h2 hm1 ⟨rfl, hout⟩ hfu hB hx
   rw [HQ.out] at hc
   have HC := af hc
   clear hm1 hf1 hc hfs1
   go_wp2_with fail
   refine HC.out.mono ?_
   rintro e w3 hr3
   have HE := af (bC.step HM.out HF1.out hr3)
   obtain ⟨c, hce⟩ : ∃ c, e = .returned (.int .i64 c) := by
    rcases hr3 with ⟨c, _, _, h, _⟩ | ⟨_, _, h, _⟩
    ·exact ⟨c, h⟩
    ·exact ⟨0, h⟩
   subst hce
   clear hr3
   go_wp2
   go_ret
   exact HE.out
 ·by_cases hb0 : b.len = 0
  ·have hbn : b = .nil := Fo.len_nil hb0
   subst hbn
   clear hb0
   simp only [Fo.len] at *
   obtain ⟨Q, hQ⟩ : ∃ Q, iA (ev x .nil) N ⟨s.fu, r, s.out⟩ = Q := ⟨_, rfl⟩
   rw [hQ]
   have HQ := af hQ
   rw [rep_nil] at HQ
   clear hQ
   go_enter Tryz.func183, Tryz.ntmps183
   go_wp2_with fail
   refine Ht.out.mono ?_
   rintro e w1 ⟨rfl, vs1, vo1, hm1, hf1⟩
   obtain ⟨b0, b1, b2⟩ := (HM0.out.boxO hf1 HX0.out).cells
   have HR : Hid (bC TR lo x R w vs vo Q (.returned (.int .i64 0)) w1) := .inr ⟨_, HQ.out.symm, rfl, _, _, hm1, HF0.out.trans hf1⟩
   clear hm1 hf1
   go_wp2
   go_loop [10, 11] (fun i _ => i = .int .i64 0) (fun _ _ => 0)
   case atStart => exact rfl
   case round =>
    subst hrel
    by_cases h0 : 0 < a
    ·go_wp2
     go_ret
     exact HR.out
    ·have h0' : a ≤ 0 := by omega
     clear h0
     go_wp2
     go_ret
     exact HR.out
  have hbp : 1 ≤ b.len := by omega
  clear hb0
  have hz : N = a.toNat := by rw [← HNN.out]; rfl
  clear HNN
  go_enter Tryz.func183, Tryz.ntmps183
  go_wp2_with fail
  refine Ht.out.mono ?_
  rintro e w1 ⟨rfl, vs1, vo1, hm1, hf1⟩
  have hbx1 := HM0.out.boxO hf1 HX0.out
  obtain ⟨b0, b1, b2⟩ := hbx1.cells
  have HR0 : Hid (RK (ev x b) TR lo x R w vs vo w.heap.size N 29 n (.slice av b.len cap) (r.length : Int) ⟨s.fu, r, s.out⟩ 0 w1) := ⟨⟨_, _, _, ⟨hm1, HF0.out.trans hf1⟩, ⟨rfl, hout⟩, by simp, rfl⟩, hbx1⟩
  clear hm1 hf1 hbx1 Ht
  go_wp2
  clear b0 b1 b2
  go_loopw [10, 11] (fun i _ wr => ∃ j : Nat, j ≤ N ∧ j ≤ 2000 ∧ i = .int .i64 j ∧ RK (ev x b) TR lo x R w vs vo w.heap.size N 29 n (.slice av b.len cap) (r.length : Int) ⟨s.fu, r, s.out⟩ j wr) (fun i _ _ => N - (intOf i).toNat)
  case atStart => exact ⟨0, by omega, by omega, rfl, HR0.out⟩
  case round =>
   obtain ⟨j, hj, hj2, rfl, hRK⟩ := hrel
   obtain ⟨vs2, vo2, s2, ⟨hm2, hf2⟩, hok2, hju, hrep⟩ := hRK.mr
   obtain ⟨b0, b1, b2⟩ := hRK.box.cells
   have HX2 := af hRK.box
   have HM2 := af hm2
   have HF2 := af hf2
   have HOK := af hok2
   have HREP := af hrep
   simp only at hju
   clear hRK hok2 hrep
   by_cases hlt : (j : Int) < a
   ·have hfs2 := HFS.out.belowB ((HM.out.below hf2).mono hB)
    have hc := HIH.out _ wr lo x R vs2 vo2 s2 d _ _ m _ _ hfs2 hl Hwf.out hok HND.out (by omega) (by omega) h1 h2 hm2 HOK.out (by omega) hB hx
    have HC := af hc
    clear hm2 hf2 hc hfs2
    go_wp2_with fail
    refine HC.out.mono ?_
    rintro e w3 hr3
    rcases hr3 with ⟨c, hq, hc0, rfl, hb3⟩ | ⟨s3, hq, rfl, vs3, vo3, hm3, hf3⟩
    ·have HE : Hid (bC TR lo x R w vs vo (iA (ev x b) N ⟨s.fu, r, s.out⟩) (.returned (.int .i64 c)) w3) := .inl ⟨c, by rw [HREP.out, show N - j = (N - j - 1) + 1 by omega, lV hq], hc0, rfl, (HM.out.below HF2.out).trans hb3⟩
     have hce : (c == 0) = false := beq_eq_false_iff_ne.2 hc0
     clear hq hc0 hb3 b0 b1 b2
     go_wp2
     go_ret
     exact HE.out
    ·have hk3 := fI x b d _ _ m _ _ s2 s3 hok HND.out (by omega) HOK.out hq
     have HL : Hid (RK (ev x b) TR lo x R w vs vo w.heap.size N 29 n (.slice av b.len cap) (r.length : Int) ⟨s.fu, r, s.out⟩ (j + 1) w3) := ⟨⟨_, _, _, ⟨hm3, HF2.out.trans hf3⟩, hk3.1, by have := hk3.2; simp only; omega, by rw [HREP.out, show N - j = (N - (j + 1)) + 1 by omega, rep_ok hq]⟩, HM2.out.boxO hf3 HX2.out⟩
     have hj3 : j + 1 ≤ N := by omega
     have hj4 : j + 1 ≤ 2000 := by have := hk3.2; omega
     clear hq hm3 hf3 hk3 b0 b1 b2
     go_wp2
     go_roundw
     case rel => exact ⟨j + 1, hj3, hj4, by go_num, HL.out⟩
     case measure => simp [intOf]; omega
   ·have hlt' : a ≤ (j : Int) := by omega
    have HE : Hid (bC TR lo x R w vs vo (iA (ev x b) N ⟨s.fu, r, s.out⟩) (.returned (.int .i64 0)) wr) := .inr ⟨s2, by rw [HREP.out, show N - j = 0 by omega]; rfl, rfl, _, _, hm2, hf2⟩
    clear hm2 hf2 b0 b1 b2 hlt
    go_wp2
    go_ret
    have h9 := HE.out
    rw [hz] at h9
    exact h9
theorem op_anyE (B : Nat) (b : Fo) (IH : ListR' B b) (k n : Int) (v : Value) (w : World) (lo : Nat) (x : Rc) (R : Nat) (vs vo : Value) (s : St) (d : Nat) (h fl m m2 : Int)
  (hf : FS (QB B) w v b) (hl : b.len ≤ 3518437208780) (hwf : jo b) (hal : bQ k n b = true) (hok : bm k = true → eZ b d = true) (h0 : 0 ≤ fl) (h1 : fl ≤ h - tk k) (h2 : h - tk k + lv k ≤ 16)
  (hnd : nd b (h - tk k + lv k) (h - tk k + lv k) (max m (h - tk k + lv k)) = some (h - tk k + lv k, m2)) (h3 : h ≤ m) (h4 : m ≤ 16)
  (hM : aK TR lo x R w vs vo s) (hO : Ok h s) (hfu : s.fu ≤ 2000) (hB : B ≤ lo) (hx : x.1.2.size ≤ 64) :
  Calls Tryz.prog 183 #[.pointer (some ⟨R, 0, none⟩), .agg #[.int .i64 k, .int .i64 n, v]] w fun e w' => bC TR lo x R w vs vo (iX x k n (ev x b) s) e w' := by
 have hkb := fH hal
 have hlen := hO.len
 have ht := tk_bd k
 have hlv := jQ k
 have hl50 : s.st.length ≤ 50 := by omega
 by_cases a1 : k ≤ 4
 ·have hk : k = 1 ∨ k = 2 ∨ k = 3 ∨ k = 4 := by omega
  rcases hk with rfl | rfl | rfl | rfl
  ·exact (opg_1 n v hM hl50).mono fun e w' h => bo (stp_1 (by decide)) h
  ·exact (opg_2 n v hM hl50).mono fun e w' h => bo (stp_1 (by decide)) h
  ·exact (opg_3 n v hM hx hl50).mono fun e w' h => bo (stp_1 (by decide)) h
  ·exact (opg_4 n v hM hl50).mono fun e w' h => bo (stp_1 (by decide)) h
 by_cases a2 : k ≤ 17
 ·have e1 : tk k = 2 := by unfold tk; rw [if_neg a1, if_pos a2]
  obtain ⟨a, b', r, hs⟩ := kH (l := s.st) (by omega)
  exact (op_b k n v hM (by omega) a2 hs hl50).mono fun e w' h => bo (stp_2 (by omega) a2 hs) h
 by_cases a3 : k ≤ 24
 ·have e1 : tk k = 1 := by unfold tk; rw [if_neg a1, if_neg a2, if_pos (by omega)]
  obtain ⟨a, r, hs⟩ := gN (l := s.st) (by omega)
  have hk : k = 18 ∨ k = 19 ∨ k = 20 ∨ k = 21 ∨ k = 22 ∨ k = 23 ∨ k = 24 := by omega
  rcases hk with rfl | rfl | rfl | rfl | rfl | rfl | rfl
  ·exact (op_18 n v hM hs hl50).mono fun e w' h => bo (ln (by decide) (by decide) hs) h
  ·exact (op_19 n v hM hs hl50).mono fun e w' h => bo (ln (by decide) (by decide) hs) h
  ·exact (op_20 n v hM hs hl50).mono fun e w' h => bo (ln (by decide) (by decide) hs) h
  ·exact (op_21 n v hM hs hl50).mono fun e w' h => bo (ln (by decide) (by decide) hs) h
  ·exact (op_22 n v hM hs hl50).mono fun e w' h => bo (ln (by decide) (by decide) hs) h
  ·exact (op_23 n v hM hs hl50).mono fun e w' h => bo (ln (by decide) (by decide) hs) h
  ·exact (op_24 n v hM hs hl50).mono fun e w' h => bo (ln (by decide) (by decide) hs) h
 have hk : k = 25 ∨ k = 26 ∨ k = 27 ∨ (k = 28 ∨ k = 29) ∨ k = 30 := by omega
 rcases hk with rfl | rfl | rfl | hk | rfl
 ·have e1 : tk 25 = 1 := by decide
  obtain ⟨a, r, hs⟩ := gN (l := s.st) (by omega)
  exact (op_25 n v hM hs hl50).mono fun e w' h => bo (stp_25 hs) h
 ·have e1 : tk 26 = 2 := by decide
  obtain ⟨a, b', r, hs⟩ := kH (l := s.st) (by omega)
  exact (op_26 n v hM hs hl50).mono fun e w' h => bo (stp_26 hs) h
 ·have e1 : tk 27 = 1 := by decide
  obtain ⟨a, r, hs⟩ := gN (l := s.st) (by omega)
  exact (op_27 n v hM hs hl50).mono fun e w' h => bo (stp_27 hs) h
 ·have e1 : tk k = 1 ∧ lv k = 0 ∧ bm k = true := by rcases hk with rfl | rfl <;> decide
  obtain ⟨a, r, hs⟩ := gN (l := s.st) (by omega)
  have hrl : (r.length : Int) = h - tk k + lv k := by rw [hs] at hlen; simp only [List.length_cons] at hlen; omega
  rw [stp_B hk hs]
  exact op_B B b IH k n v _ lo x R vs vo s d a r (max m (h - tk k + lv k)) m2 hf hl hwf (hok e1.2.2) hs (by rw [hrl]; exact hnd) (by omega) (by omega) hM hO.out hfu hB hx hk
 ·have e1 : tk 30 = 2 := by decide
  obtain ⟨a, b', r, hs⟩ := kH (l := s.st) (by omega)
  rw [stp_30 hs]
  exact (op_30 n v hM hs hO.out).mono fun e w' h => by
   rcases h with ⟨h1, h2, h3⟩ | ⟨h1, h2, h3⟩
   ·exact .inl ⟨2, by rw [if_pos h1], by decide, h2, h3⟩
   ·exact .inr ⟨_, by rw [if_neg h1], h2, h3⟩
theorem rrun_list (B : Nat) : ∀ (z : Nat) (f : Fo), f.sz ≤ z → ListR' B f := by
 intro z
 induction z with
 | zero =>
  intro f hz v w lo x R vs vo s d h fl m l p hf hl hwf hok hnd h0 h1 h2 h3 hM hO hfu hB hx
  obtain rfl : f = .nil := by cases f with
   | nil => rfl
   | cons k n b r => simp [Fo.sz] at hz
  obtain ⟨a, cap, rfl⟩ := hf.val
  have HR : Hid (bC TR lo x R w vs vo (ev x .nil s) (.returned (.int .i64 0)) w) := .inr ⟨s, rfl, rfl, _, _, hM, Fr.refl _ _ _ _⟩
  simp only [Fo.len]
  generalize ev x .nil s = q at HR ⊢
  clear hz hf hl hwf hok hnd hM hO
  go_enter Tryz.func141, Tryz.ntmps141
  go_wp2
  go_loop [5, 6] (fun i _ => i = .int .i64 0) (fun _ _ => 0)
  case atStart => exact rfl
  case round =>
   subst hrel
   go_wp2
   go_ret
   exact HR.out
 | succ z ih =>
  intro f hz v w lo x R vs vo s d h fl m l p hf hl hwf hok hnd h0 h1 h2 h3 hM hO hfu hB hx
  rcases hf.shape with ⟨a1, cap, rfl, hfn⟩ | ⟨g, o, cap, rfl, hq, hat⟩
  ·subst hfn
   exact ih .nil (by simp [Fo.sz]) _ w lo x R vs vo s d h fl m l p hf hl hwf hok hnd h0 h1 h2 h3 hM hO hfu hB hx
  obtain ⟨n, hn⟩ : ∃ n, f.len = n := ⟨_, rfl⟩
  have hBw : B ≤ w.heap.size := by have := hM.lw; have := hM.blk.lt; omega
  have hstart := af (EK.mk (f := f) (d := d) (T := TR) (lo := lo) (x := x) (R := R) (w := w) (vs := vs) (vo := vo) (s := s) (h := h) (fl := fl) (m := m) (l := l) (p := p) (k := 0) ⟨vs, vo, s, h, m, ⟨hM, Fr.refl _ _ _ _⟩, hO, Nat.le_refl _, by cases f <;> rfl, by cases f <;> exact hnd, h1, h2, h3⟩)
  rw [hn] at hl ⊢
  have HN : Hid (f.len = n) := hn
  have HI := af ih
  have hgB : g < B := hq
  have Hat := af hat
  have Hwf := af hwf
  have HSZ := af hz
  have HM := af hM
  have HOK := af hok
  obtain ⟨Q, hQ⟩ : ∃ Q, ev x f s = Q := ⟨_, rfl⟩
  rw [hQ]
  have HQ := af hQ
  clear hn ih hat hwf hf hq hz hM hO hnd hok hQ
  go_enter Tryz.func141, Tryz.ntmps141
  go_wp2
  go_loopw [5, 6] (fun i _ wr => ∃ k : Nat, k ≤ n ∧ i = .int .i64 k ∧ EK f d TR lo x R w vs vo s h fl m l p k wr) (fun i _ _ => n - (intOf i).toNat)
  case atStart => exact ⟨0, by omega, rfl, hstart.out⟩
  case round =>
   obtain ⟨k, hk, rfl, hEK⟩ := hrel
   obtain ⟨vs1, vo1, s1, h', m', ⟨hm1, hf1⟩, hO1, hfu1, hev1, hnd1, hh1, hh2, hh3⟩ := hEK.mr
   clear hEK
   by_cases hlt : k < n
   ·have hbw := (HM.out.below hf1).mono hB
    have hat' : fG (QB B) wr f g o := Hat.out.move (fun b o hq => ⟨hbw.block b hq, hq⟩) (hbw.block g hgB)
    obtain ⟨kk, nn, b, r, sv, e1, e2, e3, c0', c1', c2', hsv⟩ := hat'.at (i := k) (by rw [HN.out]; exact hlt)
    obtain ⟨hb1, hb2⟩ := Hwf.out.at e1
    have hbs := Fo.sz_blk e1
    have hbz : b.sz ≤ z := by have := HSZ.out; omega
    have hLb := HI.out b hbz
    obtain ⟨hal, hbo⟩ := mI HOK.out e1
    rw [e1] at hev1 hnd1
    obtain ⟨n1, n2, m2, n3, n4⟩ := jR hnd1
    have hlv := jQ kk
    have hbd := oy _ _ _ _ _ _ n3 (Int.le_refl _) (by omega) (by omega)
    obtain ⟨a1, cap1, rfl⟩ := hsv.val
    obtain ⟨⟨_, _, _, d3, _, _⟩, y3, _, _⟩ := hm1.blk.cells
    have hgr : g < wr.heap.size := by have := hm1.lw; have := hm1.blk.lt; omega
    have hRr := hm1.blk.lt
    by_cases hz0 : s1.fu = 0
    ·have HE : Hid (bC TR lo x R w vs vo Q (.returned (.int .i64 10)) wr) := .inl ⟨10, by rw [← HQ.out, hev1, ev_no hz0], by decide, rfl, HM.out.below hf1⟩
     rw [hz0] at d3
     clear hm1 hf1 hO1 hev1 hnd1 hat' e1 e2 e3 hsv n1 n2 n3 n4 hbd hLb hbo hal hb2 hbw
     go_wp2
     go_ret
     exact HE.out
    ·obtain ⟨q, hq⟩ : ∃ q, s1.fu = q + 1 := ⟨s1.fu - 1, by omega⟩
     have hst := hm1.fuel q
     have hfB := hf1.trans hst.2
     have hmB := hst.1
     have hbB := (hm1.below hst.2).mono hB
     have hsvB : FS (QB B) (wr.setCell ⟨R, 3, none⟩ (.int .i64 (q : Int))) (.slice a1 b.len cap1) b := hsv.belowB hbB
     have x0 := (hbB.cell (p := ⟨g, o + k * 3, none⟩) hgB).trans c0'
     have x1 := (hbB.cell (p := ⟨g, o + k * 3 + 1, none⟩) hgB).trans c1'
     have x2 := (hbB.cell (p := ⟨g, o + k * 3 + 2, none⟩) hgB).trans c2'
     have hdo := op_anyE B b hLb kk nn (.slice a1 b.len cap1) _ lo x R vs1 vo1 ⟨q, s1.st, s1.out⟩ (d + 1) h' fl m' m2 hsvB hb1 hb2 hal hbo h0 n1 n2 n3 hh2 hh3 hmB ⟨hO1.len, hO1.out⟩ (by show q ≤ 2000; omega) hB hx
     have HDO := af hdo
     have HFB := af hfB
     have HSB := af hmB
     have HEV := af hev1
     have HD := af e2
     have HO1 := af hO1
     have HN1 := af n1
     have HN4 := af n4
     have HN3 := af n3
     have HB5 := af (And.intro hal hbo)
     have hd3 : wr.cell? ⟨R, 3, none⟩ = some (.int .i64 ((q : Int) + 1)) := by rw [d3, hq]; rfl
     clear hm1 hf1 hO1 hev1 hnd1 hat' e1 e2 e3 hsv n1 n3 n4 hLb hbo hal hb2 hbw hst hmB hfB hsvB hdo d3 hbB c0' c1' c2'
     go_wp2_with fail
     refine HDO.out.mono ?_
     rintro e w3 hr3
     rcases hr3 with ⟨c, hc, hc0, rfl, hb3⟩ | ⟨s3, hc, rfl, vs3, vo3, hm3, hf3⟩
     ·have HE : Hid (bC TR lo x R w vs vo Q (.returned (.int .i64 c)) w3) := .inl ⟨c, by rw [← HQ.out, HEV.out, ev_err (by omega) (by rw [hq]; exact hc)], hc0, rfl, (HM.out.below HFB.out).trans hb3⟩
      have hce : (c == 0) = false := beq_eq_false_iff_ne.2 hc0
      clear hc hc0 hb3
      go_wp2
      go_ret
      exact HE.out
     ·have hal := fH HB5.out.1
      have hk3 := kG (s := ⟨q, s1.st, s1.out⟩) hal.1 hal.2 ⟨HO1.out.len, HO1.out.out⟩ (by have := HN1.out; omega) (fun t t' ht e => by
       cases hb : bm kk with
       | true => have := fI x b _ _ _ _ _ _ _ _ (HB5.out.2 hb) HN3.out (by have := HN1.out; omega) ht e; exact ⟨this.1, by omega⟩
       | false =>
        rw [eM HB5.out.1 hb, ev] at e
        injection e with e
        subst e
        exact ⟨ht, Nat.le_refl _⟩) hc
      have hk4 : s3.fu ≤ q := hk3.2
      have HL : Hid (EK f d TR lo x R w vs vo s h fl m l p (k + 1) w3) := ⟨⟨vs3, vo3, s3, _, m2, ⟨hm3, HFB.out.trans hf3⟩, hk3.1, by omega, by rw [HEV.out, ev_ok (s' := s3) (by omega) (by rw [hq]; exact hc), HD.out], by rw [HD.out]; exact HN4.out, by have := HN1.out; omega, by omega, by omega⟩⟩
      clear hc hm3 hf3 hk3 hal
      go_wp2
      go_roundw
      case rel => exact ⟨k + 1, by omega, by go_num, HL.out⟩
      case measure => simp [intOf]; omega
   ·have hlt' : n ≤ k := by omega
    have HE : Hid (bC TR lo x R w vs vo Q (.returned (.int .i64 0)) wr) := .inr ⟨s1, by rw [← HQ.out, hev1, Fo.drop_all _ _ (by rw [HN.out]; exact hlt')]; rfl, rfl, _, _, hm1, hf1⟩
    clear hm1 hf1 hO1 hev1 hnd1
    go_wp2
    go_ret
    exact HE.out
theorem rRun_any (f : Fo) (v : Value) (w : World) (x : Rc) (q : Nat) (h : FS QA w v f) (hl : f.len ≤ 3518437208780) (hwf : jo f) (hc : cE f = 0) (hx : x.1.2.size ≤ 64) (hq : q ≤ 2000) :
  Calls Tryz.prog 94 #[v, .agg #[.int .i64 x.1.1, .string x.1.2, .int .i64 x.2], .int .i64 (q : Int)] w fun e w' => kJ w (df f x (q : Int)) e w' := by
 have hB0 := (Below.refl w.heap.size w).alloc (Nat.le_refl _) (.cells #[.int .i64 x.1.1, .string x.1.2, .int .i64 x.2] 155)
 have Hf := af (h.below hB0)
 have Hwf := af hwf
 have HB0 := af hB0
 have HC := af hc
 obtain ⟨a, cap, rfl⟩ := h.val
 obtain ⟨⟨xa, xb⟩, xv⟩ := x
 simp only at hx HB0 Hf hB0
 obtain ⟨W, hW⟩ : ∃ W, w.alloc (.cells #[.int .i64 xa, .string xb, .int .i64 xv] 155) = W := ⟨_, rfl⟩
 have hWs : W.heap.size = w.heap.size + 1 := by rw [← hW]; simp
 obtain ⟨T, hT⟩ : ∃ T, df f ((xa, xb), xv) (q : Int) = T := ⟨_, rfl⟩
 rw [hT]
 have HT := af hT
 obtain ⟨hmay, p, hneed⟩ := cE_zero HC.out
 have hmB : aK TR W.heap.size ((xa, xb), xv) W.heap.size (W.alloc (.cells #[.int .i64 xa, .string xb, .int .i64 xv, .int .i64 (q : Int), .slice none 0 0, .slice none 0 0] TR)) (.slice none 0 0) (.slice none 0 0) ⟨q, [], []⟩ := ⟨kt_R, Nat.le_refl _, du.new TR W ((xa, xb), xv) q _ _, World.ownsRow_nil _ _ _ _, World.ownsRow_nil _ _ _ _⟩
 rw [hW] at Hf HB0
 have hfB : FS (QB W.heap.size) (W.alloc (.cells #[.int .i64 xa, .string xb, .int .i64 xv, .int .i64 (q : Int), .slice none 0 0, .slice none 0 0] TR)) (.slice a f.len cap) f := (Hf.out.toB).belowB ((Below.refl _ _).alloc (Nat.le_refl _) _)
 have hL := rrun_list W.heap.size f.sz f (Nat.le_refl _) _ _ W.heap.size ((xa, xb), xv) W.heap.size _ _ ⟨q, [], []⟩ 0 0 0 0 0 p hfB hl Hwf.out hmay.1 hneed (by omega) (by omega) (by omega) (by omega) hmB ⟨rfl, by simp⟩ hq (Nat.le_refl _) hx
 have hbA : Below w.heap.size w (W.alloc (.cells #[.int .i64 xa, .string xb, .int .i64 xv, .int .i64 (q : Int), .slice none 0 0, .slice none 0 0] TR)) := HB0.out.alloc (by omega) _
 have HBA := af hbA
 have HMB := af hmB
 rw [← hW] at hL
 have HL := af hL
 have HW := af hW
 have HWS := af hWs
 clear h hwf hB0 hT hc hL hmB hfB hmay hneed hbA hW hWs Hf HB0
 go_enter Tryz.func94, Tryz.ntmps94
 go_wp2_with fail
 rw [show w.heap.size + 1 = (w.alloc (.cells #[.int .i64 xa, .string xb, .int .i64 xv] 155)).heap.size by simp]
 refine HL.out.mono ?_
 rw [show (w.alloc (.cells #[.int .i64 xa, .string xb, .int .i64 xv] 155)).heap.size = w.heap.size + 1 by simp]
 rintro e w2 hr
 rw [HW.out] at hr
 rcases hr with ⟨c, hq', hc0, rfl, hb3⟩ | ⟨s3, hq', rfl, vs3, vo3, hm3, hf3⟩
 ·have hR := runR_3 HC.out hx hq hq'
  rw [HT.out] at hR
  have HE : Hid (kJ w T (.returned (.tuple #[.slice none 0 0, .int .i64 0, .int .i64 c])) w2) := ⟨_, by rw [hR], by rw [hR]; exact World.ownsRow_nil _ _ _ _, HBA.out.trans (hb3.mono (by have := HWS.out; omega))⟩
  have hce : (c == 0) = false := beq_eq_false_iff_ne.2 hc0
  clear hq' hc0 hb3 hR
  go_wp2
  go_ret3
  exact HE.out
 ·have hR := runR_4 HC.out hx hq hq'
  rw [HT.out] at hR
  have hb3 := HMB.out.below (by rw [HWS.out]; exact hf3)
  try rw [HWS.out] at hm3
  obtain ⟨⟨_, _, _, d3, _, d5⟩, _⟩ := hm3.blk.cells
  have HE : Hid (kJ w T (.returned (.tuple #[vo3, .int .i64 (s3.fu : Int), .int .i64 0])) (w2.drewN 1)) := ⟨vo3, by rw [hR], by rw [hR]; exact oD (w := w2.drewN 1) (hm3.drew 1).out (by omega), below_drewN (HBA.out.trans (hb3.mono (by have := HWS.out; omega))) 1⟩
  obtain ⟨ao, capo, hvo⟩ := bz hm3.out
  subst hvo
  clear hq' hb3 hR hm3 hf3
  go_wp2
  go_region
  go_wp2
  go_ret3
  exact HE.out
end Go.Proofs.YtclcgakfmcofaaaGreatDoor
