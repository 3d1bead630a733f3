/- Texts laid together: LProg, LRCount, LROps, CRNeed. -/
import Derived.Test.YtaagllbcmgnbnaaGreatDoorMB15
import Derived.Test.YtaagllbcmgnbnaaGreatDoorMB17
/- Programs that a text is. -/
namespace Go.Proofs.YtaagllbcmgnbnaaGreatDoor
open Go.RowKit
set_option linter.unusedVariables false
set_option maxRecDepth 100000

theorem DrawnL.low {w wr : World} (h : DrawnL w wr) : Below w.heap.size w wr := h.below _

theorem prog_ok {s : ByteArray} {g : Fo} {ws : List (List UInt8)} {m : Nat} (h : Prog s (.ok g ws m)) : May g ∧ WfN g ∧ g.len ≤ 3518437208780 ∧ WfB g := by
  unfold Prog at h
  split at h
  · simp at h
  · obtain ⟨fu, h⟩ := h
    obtain ⟨h1, h2, h3, h4, _⟩ := read_ok fu 0 _ 0 g ws m h (fun x hx => (splitG_words _ [] (fun c hc => by cases hc) x hx).1) (by omega) (by omega)
    obtain ⟨h5, h6⟩ := WfB.of_tot g 0 h1 (by omega)
    exact ⟨⟨h1, by omega⟩, h2, by omega, h6⟩
end Go.Proofs.YtaagllbcmgnbnaaGreatDoor
/- The page's own count of ops. -/
namespace Go.Proofs.YtaagllbcmgnbnaaGreatDoor
open Go.RowKit
set_option linter.unusedVariables false
set_option maxRecDepth 100000

/-- What the page's count tells. -/
def RCR (f : Fo) (d a : Nat) (e : Ending) : Prop := ((okF f d = true ∧ a + tot f ≤ 128) ∧ e = .returned (.tuple #[.int .i64 ((a + tot f : Nat) : Int), .bool true])) ∨ (¬ (okF f d = true ∧ a + tot f ≤ 128) ∧ ∃ z, e = .returned (.tuple #[.int .i64 z, .bool false]))
theorem bt_take_le (i : Nat) (f : Fo) : bt (f.take i) ≤ bt f := by
  have := Fo.take_drop i f
  rw [show bt f = bt ((f.take i).app (f.drop i)) by rw [this], bt_app]
  omega
/-- The ways through the page's test. -/
inductive Way (k n : Int) (b : Nat) : Prop
  | b1 (h : k < 1)
  | b2 (h : 30 < k)
  | b3 (h : k = 28) (h2 : n ≠ 0)
  | b4 (h : k = 29) (h2 : n ≠ 0)
  | b5 (h : 1 < k) (h2 : k ≤ 30) (h3 : k ≠ 28) (h4 : k ≠ 29) (h5 : n ≠ 0)
  | b6 (h : k = 1) (h2 : 0 < b)
  | b7 (h : 1 < k) (h2 : k ≤ 30) (h3 : k ≠ 28) (h4 : k ≠ 29) (h5 : n = 0) (h6 : 0 < b)
  | o1 (h : k = 1) (h2 : b = 0)
  | o2 (h : 1 < k) (h2 : k ≤ 30) (h3 : k ≠ 28) (h4 : k ≠ 29) (h5 : n = 0) (h6 : b = 0)
  | p1 (h : k = 28) (h2 : n = 0)
  | p2 (h : k = 29) (h2 : n = 0)
theorem way (k n : Int) (b : Nat) : Way k n b := by
  by_cases h1 : k < 1
  · exact .b1 h1
  by_cases h2 : 30 < k
  · exact .b2 h2
  by_cases h3 : k = 1
  · by_cases h4 : b = 0
    · exact .o1 h3 h4
    · exact .b6 h3 (by omega)
  by_cases h4 : k = 28
  · by_cases h5 : n = 0
    · exact .p1 h4 h5
    · exact .b3 h4 h5
  by_cases h5 : k = 29
  · by_cases h6 : n = 0
    · exact .p2 h5 h6
    · exact .b4 h5 h6
  by_cases h6 : n = 0
  · by_cases h7 : b = 0
    · exact .o2 (by omega) (by omega) h4 h5 h6 h7
    · exact .b7 (by omega) (by omega) h4 h5 h6 (by omega)
  · exact .b5 (by omega) (by omega) h4 h5 h6
theorem hasB_no {k : Int} (h1 : k ≠ 28) (h2 : k ≠ 29) : hasB k = false := by unfold hasB; rw [beq_eq_false_iff_ne.2 h1, beq_eq_false_iff_ne.2 h2]; rfl

set_option maxHeartbeats 3200000 in
theorem rcount_sz : ∀ (s : Nat) (f : Fo) (v : Value) (w : World) (d a : Nat), f.sz ≤ s → FS QA w v f → f.len ≤ 3518437208780 → WfB f → d ≤ 7 → a ≤ 128 →
    Calls Tryz.prog 97 #[v, .int .i64 d, .int .i64 a] w fun e w' => RCR f d a e ∧ Below w.heap.size w w' := by
  intro s
  induction s with
  | zero =>
    intro f v w d a hs h hl hwf hd ha
    obtain rfl : f = .nil := by cases f with
      | nil => rfl
      | cons k n b r => simp [Fo.sz] at hs
    obtain ⟨a1, cap, rfl⟩ := h.val
    simp only [Fo.len]
    by_cases hd6 : d ≤ 6
    · have hdi : (d : Int) ≤ 6 := by omega
      have HC : Hid (RCR .nil d a (.returned (.tuple #[.int .i64 (a : Int), .bool true]))) := .inl ⟨⟨by simp [okF, hd6], by simpa [tot] using ha⟩, by simp [tot]⟩
      clear hs hl hwf h
      go_enter Tryz.func97, Tryz.ntmps97
      go_wp2
      go_loop [2, 8] (fun n i => n = .int .i64 a ∧ i = .int .i64 0) (fun _ _ => 0)
      case atStart => exact ⟨rfl, rfl⟩
      case round =>
        obtain ⟨rfl, rfl⟩ := hrel
        go_wp2
        go_ret2
        exact ⟨HC.out, Below.refl _ _⟩
    · have hdi : (6 : Int) < d := by omega
      have HC : Hid (RCR .nil d a (.returned (.tuple #[.int .i64 (a : Int), .bool false]))) := .inr ⟨fun hc => by simp [okF] at hc; omega, _, rfl⟩
      clear hs hl hwf h
      go_enter Tryz.func97, Tryz.ntmps97
      go_wp2
      go_ret2
      exact ⟨HC.out, Below.refl _ _⟩
  | succ s ih =>
    intro f v w d a hs h hl hwf hd ha
    rcases h.shape with ⟨a1, cap, rfl, hf⟩ | ⟨g, o, cap, rfl, hq, hat⟩
    · subst hf
      exact ih .nil _ w d a (by simp [Fo.sz]) h hl hwf hd ha
    obtain ⟨n, hn⟩ : ∃ n, f.len = n := ⟨_, rfl⟩
    rw [hn] at hl ⊢
    have HN : Hid (f.len = n) := hn
    have HI := hidN ih
    have hgw : g < w.heap.size := hq
    have Hat := hidN hat
    have Hwf := hidN hwf
    by_cases hd6 : d ≤ 6
    · have hdi : (d : Int) ≤ 6 := by omega
      clear hn ih h hat hwf
      go_enter Tryz.func97, Tryz.ntmps97
      go_wp2
      go_loopw [2, 8] (fun x i wr => ∃ (k z : Nat), k ≤ n ∧ i = .int .i64 k ∧ x = .int .i64 z ∧ z ≤ 128 ∧ Hid (z = a + k + bt (f.take k) ∧ allO (f.take k) d = true) ∧ Below w.heap.size w wr) (fun _ i _ => n - (intOf i).toNat)
      case atStart => exact ⟨0, a, by omega, rfl, rfl, ha, ⟨by cases f <;> rfl, by cases f <;> rfl⟩, Below.refl _ _⟩
      case round =>
        obtain ⟨k, z, hk, rfl, rfl, hz, HZ, hbel⟩ := hrel
        have hsz := hbel.size
        have hzi : (z : Int) ≤ 128 := by omega
        by_cases hlt : k < n
        · by_cases hz8 : z = 128
          · have HC : Hid (RCR f d a (.returned (.tuple #[.int .i64 129, .bool false]))) := .inr ⟨fun hc => by
              have := HZ.out
              have h1 := tot_bt f
              have h2 := bt_take_le k f
              have h3 := HN.out
              omega, _, rfl⟩
            subst hz8
            go_wp2
            go_ret2
            exact ⟨HC.out, hbel⟩
          have hz7 : (z : Int) < 128 := by omega
          have hat' : FoAt QA wr f g o := Hat.out.move (fun b o hq => ⟨hbel.block b hq, Nat.lt_of_lt_of_le hq hsz⟩) (hbel.block g hgw)
          obtain ⟨kk, nn, b, r, sv, e1, e2, e3, c0, c1, c2, hsv⟩ := hat'.at (i := k) (by rw [HN.out]; exact hlt)
          obtain ⟨hb1, hb2⟩ := Hwf.out.at e1
          have hbs := Fo.sz_blk e1
          have HT := hidN e3
          have HD := hidN e1
          have Hs : Hid (FS QA wr sv b) := hsv
          obtain ⟨a1, cap1, rfl⟩ := hsv.val
          have hgr : g < wr.heap.size := by omega
          have hB1 := (Below.refl wr.heap.size wr).alloc (Nat.le_refl _) (.cells #[.int .i64 kk, .int .i64 nn, .slice a1 b.len cap1] 171)
          have HB1 := hidN hB1
          have HBX := hidN (hbel.trans (hB1.mono hsz))
          obtain ⟨blen, hblen⟩ : ∃ q, b.len = q := ⟨_, rfl⟩
          have HBL := hidN hblen
          have hWay := way kk nn blen
          rw [hblen] at hb1 c2 HB1 HBX Hs
          clear e1 e2 e3 hat' hsv hB1 hblen
          cases hWay with
          | b1 h =>
            have HC : Hid (RCR f d a (.returned (.tuple #[.int .i64 ((z : Int) + 1), .bool false]))) := .inr ⟨ok_not HD.out (.inl (by
              have hbl := HBL.out
              simp [okO, alone]; omega)), _, rfl⟩
            have e28 : (kk == 28) = false := beq_eq_false_iff_ne.2 (by omega)
            have e29 : (kk == 29) = false := beq_eq_false_iff_ne.2 (by omega)
            go_wp2
            go_ret2
            exact ⟨HC.out, HBX.out⟩
          | b2 h =>
            have HC : Hid (RCR f d a (.returned (.tuple #[.int .i64 ((z : Int) + 1), .bool false]))) := .inr ⟨ok_not HD.out (.inl (by
              have hbl := HBL.out
              simp [okO, alone]; omega)), _, rfl⟩
            have e28 : (kk == 28) = false := beq_eq_false_iff_ne.2 (by omega)
            have e29 : (kk == 29) = false := beq_eq_false_iff_ne.2 (by omega)
            have i1 : (1 : Int) ≤ kk := by omega
            go_wp2
            go_ret2
            exact ⟨HC.out, HBX.out⟩
          | b3 h h2 =>
            have HC : Hid (RCR f d a (.returned (.tuple #[.int .i64 ((z : Int) + 1), .bool false]))) := .inr ⟨ok_not HD.out (.inl (by
              have hbl := HBL.out
              subst h; simp [okO, alone, h2])), _, rfl⟩
            subst h
            have n0 : (nn == 0) = false := beq_eq_false_iff_ne.2 h2
            go_wp2
            go_ret2
            exact ⟨HC.out, HBX.out⟩
          | b4 h h2 =>
            have HC : Hid (RCR f d a (.returned (.tuple #[.int .i64 ((z : Int) + 1), .bool false]))) := .inr ⟨ok_not HD.out (.inl (by
              have hbl := HBL.out
              subst h; simp [okO, alone, h2])), _, rfl⟩
            subst h
            have n0 : (nn == 0) = false := beq_eq_false_iff_ne.2 h2
            go_wp2
            go_ret2
            exact ⟨HC.out, HBX.out⟩
          | b5 h h2 h3 h4 h5 =>
            have HC : Hid (RCR f d a (.returned (.tuple #[.int .i64 ((z : Int) + 1), .bool false]))) := .inr ⟨ok_not HD.out (.inl (by
              have hbl := HBL.out
              have : kk ≠ 1 := by omega
              simp [okO, alone, h5, this])), _, rfl⟩
            have e1 : (kk == 1) = false := beq_eq_false_iff_ne.2 (by omega)
            have e28 : (kk == 28) = false := beq_eq_false_iff_ne.2 h3
            have e29 : (kk == 29) = false := beq_eq_false_iff_ne.2 h4
            have i1 : (1 : Int) ≤ kk := by omega
            have n0 : (nn == 0) = false := beq_eq_false_iff_ne.2 h5
            go_wp2
            go_ret2
            exact ⟨HC.out, HBX.out⟩
          | b6 h h2 =>
            have HC : Hid (RCR f d a (.returned (.tuple #[.int .i64 ((z : Int) + 1), .bool false]))) := .inr ⟨ok_not HD.out (.inl (by
              have hbl := HBL.out
              subst h; have : b.len ≠ 0 := by omega
              simp [okO, alone, hasB, this])), _, rfl⟩
            subst h
            have hbi : (0 : Int) < (blen : Int) := by omega
            go_wp2
            go_ret2
            exact ⟨HC.out, HBX.out⟩
          | b7 h h2 h3 h4 h5 h6 =>
            have HC : Hid (RCR f d a (.returned (.tuple #[.int .i64 ((z : Int) + 1), .bool false]))) := .inr ⟨ok_not HD.out (.inl (by
              have hbl := HBL.out
              have : b.len ≠ 0 := by omega
              simp [okO, alone, hasB_no h3 h4, this])), _, rfl⟩
            have e1 : (kk == 1) = false := beq_eq_false_iff_ne.2 (by omega)
            have e28 : (kk == 28) = false := beq_eq_false_iff_ne.2 h3
            have e29 : (kk == 29) = false := beq_eq_false_iff_ne.2 h4
            have i1 : (1 : Int) ≤ kk := by omega
            subst h5
            have hbi : (0 : Int) < (blen : Int) := by omega
            go_wp2
            go_ret2
            exact ⟨HC.out, HBX.out⟩
          | o1 h h2 =>
            have HZ2 : Hid (z + 1 = a + (k + 1) + bt (f.take (k + 1)) ∧ allO (f.take (k + 1)) d = true) := by
              have := HZ.out
              have hbl := HBL.out
              unfold Hid
              rw [HT.out, bt_app, allO_app]
              subst h; have hb0 : b.len = 0 := by omega
              simp [bt, allO, okO, alone, hasB, this.2, hb0]
              omega
            subst h
            subst h2
            go_wp2
            go_roundw
            case rel => exact ⟨k + 1, z + 1, by omega, by go_num, by go_num, by omega, HZ2, HBX.out⟩
            case measure => simp [intOf]; omega
          | o2 h h2 h3 h4 h5 h6 =>
            have HZ2 : Hid (z + 1 = a + (k + 1) + bt (f.take (k + 1)) ∧ allO (f.take (k + 1)) d = true) := by
              have := HZ.out
              have hbl := HBL.out
              unfold Hid
              rw [HT.out, bt_app, allO_app]
              have hb0 : b.len = 0 := by omega
              have hk1 : 1 ≤ kk := by omega
              simp [bt, allO, okO, alone, hasB_no h3 h4, this.2, hb0, h5, hk1, h2]
              omega
            have e1 : (kk == 1) = false := beq_eq_false_iff_ne.2 (by omega)
            have e28 : (kk == 28) = false := beq_eq_false_iff_ne.2 h3
            have e29 : (kk == 29) = false := beq_eq_false_iff_ne.2 h4
            have i1 : (1 : Int) ≤ kk := by omega
            subst h5
            subst h6
            go_wp2
            go_roundw
            case rel => exact ⟨k + 1, z + 1, by omega, by go_num, by go_num, by omega, HZ2, HBX.out⟩
            case measure => simp [intOf]; omega
          | p1 h h2 =>
            subst h
            subst h2
            have hfs1 := Hs.out.below HB1.out
            have hc := HI.out b _ _ (d + 1) (z + 1) (by omega) hfs1 (by rw [HBL.out]; exact hb1) hb2 (by omega) (by omega)
            rw [show ((d + 1 : Nat) : Int) = (d : Int) + 1 by omega, show ((z + 1 : Nat) : Int) = (z : Int) + 1 by omega] at hc
            have Hc := hidN hc
            clear hc hfs1

            have hdi2 : (0 : Int) ≤ d := by omega
            go_wp2_with (go_at_call 97; refine Hc.out.mono ?_)
            rintro e w2 ⟨hcr, hb2'⟩
            have HB3 := hidN (HBX.out.trans (hb2'.mono (by simp; omega)))
            rcases hcr with ⟨⟨hk1, hk2⟩, rfl⟩ | ⟨hk1, zz, rfl⟩
            · have HZ2 : Hid (z + 1 + tot b = a + (k + 1) + bt (f.take (k + 1)) ∧ allO (f.take (k + 1)) d = true) := by
                have := HZ.out
                have hbl := HBL.out
                unfold Hid
                rw [HT.out, bt_app, allO_app]
                simp [bt, allO, okO, alone, hasB, this.2, hk1]
                omega
              clear hk1 hb2'
              go_wp2
              go_roundw
              case rel => exact ⟨k + 1, z + 1 + tot b, by omega, by go_num, rfl, hk2, HZ2, HB3.out⟩
              case measure => simp [intOf]; omega
            · have HC : Hid (RCR f d a (.returned (.tuple #[.int .i64 zz, .bool false]))) := .inr ⟨ok_not HD.out (by
                have := HZ.out
                have hnn := HN.out
                by_cases hof : okF b (d + 1) = true
                · right
                  have : ¬ z + 1 + tot b ≤ 128 := fun h => hk1 ⟨hof, h⟩
                  simp [hasB]
                  omega
                · left
                  simp [okO, hasB, hof]), _, rfl⟩
              clear hk1 hb2'
              go_wp2
              go_ret2
              exact ⟨HC.out, HB3.out⟩
          | p2 h h2 =>
            subst h
            subst h2
            have hfs1 := Hs.out.below HB1.out
            have hc := HI.out b _ _ (d + 1) (z + 1) (by omega) hfs1 (by rw [HBL.out]; exact hb1) hb2 (by omega) (by omega)
            rw [show ((d + 1 : Nat) : Int) = (d : Int) + 1 by omega, show ((z + 1 : Nat) : Int) = (z : Int) + 1 by omega] at hc
            have Hc := hidN hc
            clear hc hfs1

            have hdi2 : (0 : Int) ≤ d := by omega
            go_wp2_with (go_at_call 97; refine Hc.out.mono ?_)
            rintro e w2 ⟨hcr, hb2'⟩
            have HB3 := hidN (HBX.out.trans (hb2'.mono (by simp; omega)))
            rcases hcr with ⟨⟨hk1, hk2⟩, rfl⟩ | ⟨hk1, zz, rfl⟩
            · have HZ2 : Hid (z + 1 + tot b = a + (k + 1) + bt (f.take (k + 1)) ∧ allO (f.take (k + 1)) d = true) := by
                have := HZ.out
                have hbl := HBL.out
                unfold Hid
                rw [HT.out, bt_app, allO_app]
                simp [bt, allO, okO, alone, hasB, this.2, hk1]
                omega
              clear hk1 hb2'
              go_wp2
              go_roundw
              case rel => exact ⟨k + 1, z + 1 + tot b, by omega, by go_num, rfl, hk2, HZ2, HB3.out⟩
              case measure => simp [intOf]; omega
            · have HC : Hid (RCR f d a (.returned (.tuple #[.int .i64 zz, .bool false]))) := .inr ⟨ok_not HD.out (by
                have := HZ.out
                have hnn := HN.out
                by_cases hof : okF b (d + 1) = true
                · right
                  have : ¬ z + 1 + tot b ≤ 128 := fun h => hk1 ⟨hof, h⟩
                  simp [hasB]
                  omega
                · left
                  simp [okO, hasB, hof]), _, rfl⟩
              clear hk1 hb2'
              go_wp2
              go_ret2
              exact ⟨HC.out, HB3.out⟩
        · have hke : k = n := by omega
          have HC : Hid (RCR f d a (.returned (.tuple #[.int .i64 (z : Int), .bool true]))) := by
            have := HZ.out
            have hnn := HN.out
            have hbt : bt (f.take k) = bt f := by rw [hke, ← hnn, Fo.take_all _ f (Nat.le_refl _)]
            have hal : allO f d = true := by have := this.2; rw [hke, ← hnn, Fo.take_all _ f (Nat.le_refl _)] at this; exact this
            have ht := tot_bt f
            refine .inl ⟨⟨by rw [okF_all, hal]; simp [hd6], by omega⟩, ?_⟩
            have : z = a + tot f := by omega
            rw [this]
          have hlt' : n ≤ k := by omega
          clear hke
          go_wp2
          go_ret2
          exact ⟨HC.out, hbel⟩
    · have HC : Hid (RCR f d a (.returned (.tuple #[.int .i64 (a : Int), .bool false]))) := .inr ⟨fun hc => hd6 (okF_deep hc.1), _, rfl⟩
      have hdi : (6 : Int) < d := by omega
      clear hn ih h hat hwf
      go_enter Tryz.func97, Tryz.ntmps97
      go_wp2
      go_ret2
      exact ⟨HC.out, Below.refl _ _⟩
end Go.Proofs.YtaagllbcmgnbnaaGreatDoor
/- The page's own: Ops. -/
namespace Go.Proofs.YtaagllbcmgnbnaaGreatDoor
open Go.RowKit
set_option linter.unusedVariables false
set_option maxRecDepth 100000

/-- The page's count. -/
def OpsR (f : Fo) (e : Ending) : Prop := (May f ∧ e = .returned (.tuple #[.int .i64 (tot f : Int), .bool true])) ∨ (¬ May f ∧ ∃ z, e = .returned (.tuple #[.int .i64 z, .bool false]))
theorem rops_any (f : Fo) (v : Value) (w : World) (h : FS QA w v f) (hl : f.len ≤ 3518437208780) (hwf : WfB f) :
    Calls Tryz.prog 66 #[v] w fun e w' => OpsR f e ∧ Below w.heap.size w w' := by
  have Hc := hidN (rcount_sz f.sz f v w 0 0 (Nat.le_refl _) h hl hwf (by omega) (by omega))
  rw [show ((0 : Nat) : Int) = 0 from rfl] at Hc
  obtain ⟨a, cap, rfl⟩ := h.val
  clear h hl hwf
  go_enter Tryz.func66, Tryz.ntmps66
  go_wp2_with (go_at_call 97; refine Hc.out.mono ?_)
  rintro e w1 ⟨hr, hb⟩
  have HB := hidN hb
  clear hb
  rcases hr with ⟨⟨h1, h2⟩, rfl⟩ | ⟨h1, z, rfl⟩
  · have HR : Hid (OpsR f (.returned (.tuple #[.int .i64 ((0 + tot f : Nat) : Int), .bool true]))) := .inl ⟨⟨h1, by omega⟩, by rw [Nat.zero_add]⟩
    generalize ((0 + tot f : Nat) : Int) = z at HR ⊢
    clear h1 h2
    go_wp2
    go_ret2
    exact ⟨HR.out, HB.out⟩
  · have HR : Hid (OpsR f (.returned (.tuple #[.int .i64 z, .bool false]))) := .inr ⟨fun h => h1 ⟨h.1, by have := h.2; omega⟩, z, rfl⟩
    clear h1
    go_wp2
    go_ret2
    exact ⟨HR.out, HB.out⟩
end Go.Proofs.YtaagllbcmgnbnaaGreatDoor
/- The page's own: need, Need, Check. -/
namespace Go.Proofs.YtaagllbcmgnbnaaGreatDoor
open Go.RowKit
set_option linter.unusedVariables false
set_option maxRecDepth 100000

/-! ### The page's own -/
theorem rtakes_any (k : Int) (w : World) (h1 : 1 ≤ k) (h30 : k ≤ 30) : Calls Tryz.prog 98 #[.int .i64 k] w fun e w' => e = .returned (.tuple #[.int .i64 (tk k), .int .i64 (lv k)]) ∧ w' = w := by
  by_cases a1 : k ≤ 4
  · have e : tk k = 0 ∧ lv k = 1 := by unfold tk lv; split <;> split <;> omega
    rw [e.1, e.2]
    clear e
    go_enter Tryz.func98, Tryz.ntmps98
    go_wp2
    go_ret2
    exact ⟨rfl, rfl⟩
  have b1 : 5 ≤ k := by omega
  by_cases a2 : k ≤ 17
  · have e : tk k = 2 ∧ lv k = 1 := by unfold tk lv; rw [if_neg a1, if_pos a2, if_pos (by omega)]; exact ⟨rfl, rfl⟩
    rw [e.1, e.2]
    clear e
    go_enter Tryz.func98, Tryz.ntmps98
    go_wp2
    go_ret2
    exact ⟨rfl, rfl⟩
  have b2 : 18 ≤ k := by omega
  by_cases a3 : k ≤ 24
  · have e : tk k = 1 ∧ lv k = 1 := by unfold tk lv; rw [if_neg a1, if_neg a2, if_pos (by omega), if_pos a3]; exact ⟨rfl, rfl⟩
    rw [e.1, e.2]
    clear e
    go_enter Tryz.func98, Tryz.ntmps98
    go_wp2
    go_ret2
    exact ⟨rfl, rfl⟩
  have b3 : 25 ≤ k := by omega
  have hk : k = 25 ∨ k = 26 ∨ k = 27 ∨ k = 28 ∨ k = 29 ∨ k = 30 := by omega
  clear h1 h30 a1 a2 a3 b1 b2 b3
  rcases hk with rfl | rfl | rfl | rfl | rfl | rfl
  all_goals
    go_enter Tryz.func98, Tryz.ntmps98
    go_wp2
    go_ret2
    exact ⟨rfl, rfl⟩
/-- What the page's need tells. -/
def RNR (f : Fo) (h fl m : Int) (e : Ending) : Prop :=
  (∃ l p, nd f h fl m = some (l, p) ∧ e = .returned (.tuple #[.int .i64 l, .int .i64 p, .bool true])) ∨ (nd f h fl m = none ∧ e = .returned (.tuple #[.int .i64 0, .int .i64 0, .bool false]))
/-- Where it has come to. -/
def RNL (f : Fo) (h fl m : Int) (k : Nat) (h' m' : Int) : Prop := nd f h fl m = nd (f.drop k) h' fl m'
set_option maxHeartbeats 1600000 in
theorem rneed_sz : ∀ (s : Nat) (f : Fo) (v : Value) (w : World) (h fl m : Int) (d : Nat), f.sz ≤ s → FS QA w v f → f.len ≤ 3518437208780 → WfB f → okF f d = true → 0 ≤ fl → fl ≤ h → h ≤ m → m ≤ 16 →
    Calls Tryz.prog 67 #[v, .int .i64 h, .int .i64 fl, .int .i64 m] w fun e w' => RNR f h fl m e ∧ w' = w := by
  intro s
  induction s with
  | zero =>
    intro f v w h fl m d hs hf hl hwf hok h0 h1 h2 h3
    obtain rfl : f = .nil := by cases f with
      | nil => rfl
      | cons k n b r => simp [Fo.sz] at hs
    obtain ⟨a, cap, rfl⟩ := hf.val
    simp only [Fo.len]
    clear hs hl hwf hf hok
    go_enter Tryz.func67, Tryz.ntmps67
    go_wp2
    go_loop [1, 3, 11] (fun x y i => x = .int .i64 h ∧ y = .int .i64 m ∧ i = .int .i64 0) (fun _ _ _ => 0)
    case atStart => exact ⟨rfl, rfl, rfl⟩
    case round =>
      obtain ⟨rfl, rfl, rfl⟩ := hrel
      go_wp2
      go_ret3
      exact ⟨.inl ⟨h, m, rfl, rfl⟩, rfl⟩
  | succ s ih =>
    intro f v w h fl m d hs hf hl hwf hok h0 h1 h2 h3
    rcases hf.shape with ⟨a1, cap, rfl, hfn⟩ | ⟨g, o, cap, rfl, hq, hat⟩
    · subst hfn
      exact ih .nil _ w h fl m d (by simp [Fo.sz]) hf hl hwf hok h0 h1 h2 h3
    obtain ⟨n, hn⟩ : ∃ n, f.len = n := ⟨_, rfl⟩
    rw [hn] at hl ⊢
    have HN : Hid (f.len = n) := hn
    have HI := hidK ih
    have Hat := hidK hat
    have Hwf := hidK hwf
    have HSZ := hidK hs
    have HOK := hidK hok
    have hstart : Hid (RNL f h fl m 0 h m) := by unfold Hid RNL; cases f <;> rfl
    clear hn ih hat hwf hf hq hs hok
    go_enter Tryz.func67, Tryz.ntmps67
    go_wp2
    go_loop [1, 3, 11] (fun x y i => ∃ (k : Nat) (h' m' : Int), k ≤ n ∧ i = .int .i64 k ∧ x = .int .i64 h' ∧ y = .int .i64 m' ∧ fl ≤ h' ∧ h' ≤ m' ∧ m' ≤ 16 ∧ Hid (RNL f h fl m k h' m')) (fun _ _ i => n - (intOf i).toNat)
    case atStart => exact ⟨0, h, m, by omega, rfl, rfl, rfl, h1, h2, h3, hstart⟩
    case round =>
      obtain ⟨k, h', m', hk, rfl, rfl, rfl, hh1, hh2, hh3, HL⟩ := hrel
      by_cases hlt : k < n
      · obtain ⟨kk, nn, b, r, sv, e1, e2, e3, c0, c1, c2, hsv⟩ := Hat.out.at (i := k) (by rw [HN.out]; exact hlt)
        obtain ⟨hb1, hb2⟩ := Hwf.out.at e1
        have hbs := Fo.sz_blk e1
        have hbz : b.sz ≤ s := by have := HSZ.out; omega
        obtain ⟨hal, hbo⟩ := okF_at HOK.out e1
        have hkb := alone_bd hal
        have HND : Hid (nd f h fl m = nd (.cons kk nn b r) h' fl m') := by rw [← e1]; exact HL.out
        have HD := hidK e2
        have Ht := hidK (rtakes_any kk w hkb.1 hkb.2)
        have htd := tk_bd kk
        have hld := lv_bd kk
        have HE : Hid (tk kk = tk kk ∧ lv kk = lv kk) := ⟨rfl, rfl⟩
        obtain ⟨t, ht⟩ : ∃ t, tk kk = t := ⟨_, rfl⟩
        obtain ⟨u, hu⟩ : ∃ u, lv kk = u := ⟨_, rfl⟩
        rw [ht] at htd
        rw [hu] at hld
        rw [ht, hu] at Ht
        have HT := hidK ht
        have HU := hidK hu
        obtain ⟨a1, cap1, rfl⟩ := hsv.val
        have HSV := hidK hsv
        have HAL := hidK hal
        have HBO := hidK hbo
        have HKB := hidK hkb
        clear e1 e2 e3 hsv hal hbo ht hu HE hkb HL
        by_cases hx1 : h' - t < fl
        · have HC : Hid (RNR f h fl m (.returned (.tuple #[.int .i64 0, .int .i64 0, .bool false]))) := .inr ⟨by rw [HND.out]; exact nd_no1 (by rw [HT.out]; exact hx1), rfl⟩
          go_wp2_with (go_at_call 98; refine Ht.out.mono ?_; rintro e w' ⟨rfl, rfl⟩)
          go_ret3
          exact ⟨HC.out, rfl⟩
        have hx1' : fl ≤ h' - t := by omega
        have HX1 := hidK hx1'
        by_cases hx2 : 16 < h' - t + u
        · have HC : Hid (RNR f h fl m (.returned (.tuple #[.int .i64 0, .int .i64 0, .bool false]))) := .inr ⟨by rw [HND.out]; exact nd_no2 (by rw [HT.out, HU.out]; exact hx2), rfl⟩
          go_wp2_with (go_at_call 98; refine Ht.out.mono ?_; rintro e w' ⟨rfl, rfl⟩)
          all_goals
            go_ret3
            exact ⟨HC.out, rfl⟩
        have hx2' : h' - t + u ≤ 16 := by omega
        have HX2 := hidK hx2'
        have hMx : (m' < h' - t + u ∧ max m' (h' - t + u) = h' - t + u) ∨ (h' - t + u ≤ m' ∧ max m' (h' - t + u) = m') := by omega
        clear hx1 hx2
        cases hbk : hasB kk with
        | false =>
          have e28 : (kk == 28) = false := by unfold hasB at hbk; exact (Bool.or_eq_false_iff.1 hbk).1
          have e29 : (kk == 29) = false := by unfold hasB at hbk; exact (Bool.or_eq_false_iff.1 hbk).2
          have HL2 : Hid (RNL f h fl m (k + 1) (h' - t + u) (max m' (h' - t + u))) := by
            unfold Hid RNL
            rw [HND.out, HD.out, hasB_alone HAL.out hbk, nd_mk (m2 := max m' (h' - t + u)) (by rw [HT.out]; exact HX1.out) (by rw [HT.out, HU.out]; exact HX2.out) (by rw [HT.out, HU.out]; rfl), HT.out, HU.out]
          clear hbk
          rcases hMx with ⟨hM, hMe⟩ | ⟨hM, hMe⟩
          all_goals
            rw [hMe] at HL2
            clear hMe
            go_wp2_with (go_at_call 98; refine Ht.out.mono ?_; rintro e w' ⟨rfl, rfl⟩)
            go_round
            case rel => exact ⟨k + 1, _, _, by omega, by go_num, rfl, rfl, by omega, by omega, by omega, HL2⟩
            case measure => simp [intOf]; omega
        | true =>
          have hk2 : kk = 28 ∨ kk = 29 := by unfold hasB at hbk; simpa using hbk
          have hIH := HI.out b _ w (h' - t + u) (h' - t + u) (max m' (h' - t + u)) (d + 1) hbz HSV.out hb1 hb2 (HBO.out hbk) (by omega) (Int.le_refl _) (by omega) (by omega)
          have hno : ∀ x, nd b (h' - t + u) (h' - t + u) (max m' (h' - t + u)) = x → (∀ p, x = some (h' - t + u, p) → nd f h fl m = nd (f.drop (k + 1)) (h' - t + u) fl p) ∧ ((∀ p, x ≠ some (h' - t + u, p)) → nd f h fl m = none) := by
            intro x hx
            refine ⟨fun p hp => ?_, fun hp => ?_⟩
            · rw [hp] at hx
              rw [HND.out, HD.out, nd_mk (m2 := p) (by rw [HT.out]; exact HX1.out) (by rw [HT.out, HU.out]; exact HX2.out) (by rw [HT.out, HU.out]; exact hx), HT.out, HU.out]
            · rw [HND.out]
              refine nd_no3 fun p hq => ?_
              rw [HT.out, HU.out, hx] at hq
              exact hp p hq
          have hbd := fun l p hn => nd_bd b (h' - t + u) (h' - t + u) (max m' (h' - t + u)) l p hn (Int.le_refl _) (by omega) (by omega)
          have HNO := hidK hno
          have HBD := hidK hbd
          have HC0 := hidK hIH
          clear hno hbd hIH hbk
          rcases hk2 with rfl | rfl <;> rcases hMx with ⟨hM, hMe⟩ | ⟨hM, hMe⟩
          all_goals
            rw [hMe] at HNO HBD HC0
            clear hMe
            go_wp2_with (first | (go_at_call 98; refine Ht.out.mono ?_; rintro e w' ⟨rfl, rfl⟩) | (go_at_call 67; refine HC0.out.mono ?_))
            rintro e w' ⟨hr, rfl⟩
            rcases hr with ⟨l, p, hn, rfl⟩ | ⟨hn, rfl⟩
            · have hb := HBD.out l p hn
              by_cases hle : l = h' - t + u
              · subst hle
                have HL2 : Hid (RNL f h fl m (k + 1) (h' - t + u) p) := (HNO.out _ hn).1 p rfl
                clear hn
                go_wp2
                go_round
                case rel => exact ⟨k + 1, _, _, by omega, by go_num, rfl, rfl, by omega, by omega, by omega, HL2⟩
                case measure => simp [intOf]; omega
              · have HC : Hid (RNR f h fl m (.returned (.tuple #[.int .i64 0, .int .i64 0, .bool false]))) := .inr ⟨(HNO.out _ hn).2 (fun q hq => hle (by injection hq with hq; injection hq)), rfl⟩
                have hne : (l == h' - t + u) = false := beq_eq_false_iff_ne.2 hle
                clear hn hle
                go_wp2
                go_ret3
                exact ⟨HC.out, rfl⟩
            · have HC : Hid (RNR f h fl m (.returned (.tuple #[.int .i64 0, .int .i64 0, .bool false]))) := .inr ⟨(HNO.out _ hn).2 (fun q hq => by cases hq), rfl⟩
              clear hn
              go_wp2
              go_ret3
              exact ⟨HC.out, rfl⟩
      · have hlt' : n ≤ k := by omega
        have HC : Hid (RNR f h fl m (.returned (.tuple #[.int .i64 h', .int .i64 m', .bool true]))) := by
          have := HL.out
          unfold RNL at this
          rw [Fo.drop_all _ _ (by rw [HN.out]; exact hlt')] at this
          exact .inl ⟨h', m', this, rfl⟩
        go_wp2
        go_ret3
        exact ⟨HC.out, rfl⟩
theorem rneed_any (f : Fo) (v : Value) (w : World) (h : FS QA w v f) (hl : f.len ≤ 3518437208780) (hwf : WfB f) :
    Calls Tryz.prog 43 #[v] w fun e w' => NeedR f e ∧ Below w.heap.size w w' := by
  have Hc := hidK (rops_any f v w h hl hwf)
  have Hf := hidK h
  have Hwf := hidK hwf
  obtain ⟨a, cap, rfl⟩ := h.val
  clear h hwf
  go_enter Tryz.func43, Tryz.ntmps43
  go_wp2_with (go_at_call 66; refine Hc.out.mono ?_)
  rintro e w1 ⟨hr, hb⟩
  have HB := hidK hb
  rcases hr with ⟨hm, rfl⟩ | ⟨hm, z, rfl⟩
  · have HM := hidK hm
    have HN := hidK (rneed_sz f.sz f _ w1 0 0 0 0 (Nat.le_refl _) (Hf.out.below hb) hl Hwf.out hm.1 (by omega) (by omega) (by omega) (by omega))
    clear hm hb
    go_wp2_with (go_at_call 67; refine HN.out.mono ?_)
    rintro e w' ⟨hr, rfl⟩
    rcases hr with ⟨l, p, hn, rfl⟩ | ⟨hn, rfl⟩
    · have HR := hidK (needR_mk (needOut_some HM.out hn))
      clear hn
      go_wp2
      go_ret3
      exact ⟨HR.out, HB.out⟩
    · have HR := hidK (needR_mk (needOut_none HM.out hn))
      clear hn
      go_wp2
      go_ret3
      exact ⟨HR.out, HB.out⟩
  · have HR := hidK (needR_mk (needOut_no hm))
    clear hm hb
    go_wp2
    go_ret3
    exact ⟨HR.out, HB.out⟩
theorem rcheck_anyE (f : Fo) (v : Value) (w : World) (h : FS QA w v f) (hl : f.len ≤ 3518437208780) (hwf : WfB f) :
    Calls Tryz.prog 25 #[v] w fun e w' => e = .returned (.int .i64 (cE f)) ∧ Below w.heap.size w w' := by
  have Hc := hidK (rneed_any f v w h hl hwf)
  obtain ⟨a, cap, rfl⟩ := h.val
  unfold cE
  unfold NeedR at Hc
  have hcs := nE_cases f
  generalize nE f = c at Hc hcs ⊢
  generalize nL f = l at Hc hcs ⊢
  generalize nPE f = p at Hc hcs ⊢
  clear h hwf
  rcases hcs with ⟨rfl, h1, h2, h3, _⟩ | ⟨rfl, rfl, rfl, _⟩ | ⟨rfl, rfl, rfl, _⟩
  · by_cases h0 : 0 < l
    · rw [if_pos ⟨rfl, h0⟩]
      go_enter Tryz.func25, Tryz.ntmps25
      go_wp2_with (go_at_call 43; refine Hc.out.mono ?_; rintro e w1 ⟨rfl, hb⟩)
      go_ret
      exact ⟨rfl, hb⟩
    · rw [if_neg (fun h => h0 h.2)]
      go_enter Tryz.func25, Tryz.ntmps25
      go_wp2_with (go_at_call 43; refine Hc.out.mono ?_; rintro e w1 ⟨rfl, hb⟩)
      go_ret
      exact ⟨rfl, hb⟩
  all_goals
    rw [if_neg (fun h => by have := h.2; omega)]
    go_enter Tryz.func25, Tryz.ntmps25
    go_wp2_with (go_at_call 43; refine Hc.out.mono ?_; rintro e w1 ⟨rfl, hb⟩)
    go_ret
    exact ⟨rfl, hb⟩
end Go.Proofs.YtaagllbcmgnbnaaGreatDoor
