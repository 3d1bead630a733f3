/- The page's own count of ops. -/
import Derived.Test.YtjegnffhegiajaaLCount
namespace Go.Proofs.Ytjegnffhegiajaa
open Go.RowKit
set_option linter.unusedVariables false
set_option maxRecDepth 100000

/-- What the page's count tells. -/
def RCR (f : Fo) (d a : Nat) (e : Ending) : Prop := ((okF f d = true ∧ a + tot f ≤ 128) ∧ e = .returned (.tuple #[.int .i64 ((a + tot f : Nat) : Int), .bool true])) ∨ (¬ (okF f d = true ∧ a + tot f ≤ 128) ∧ ∃ z, e = .returned (.tuple #[.int .i64 z, .bool false]))
theorem bt_take_le (i : Nat) (f : Fo) : bt (f.take i) ≤ bt f := by
  have := Fo.take_drop i f
  rw [show bt f = bt ((f.take i).app (f.drop i)) by rw [this], bt_app]
  omega
/-- The ways through the page's test. -/
inductive Way (k n : Int) (b : Nat) : Prop
  | b1 (h : k < 1)
  | b2 (h : 30 < k)
  | b3 (h : k = 28) (h2 : n ≠ 0)
  | b4 (h : k = 29) (h2 : n ≠ 0)
  | b5 (h : 1 < k) (h2 : k ≤ 30) (h3 : k ≠ 28) (h4 : k ≠ 29) (h5 : n ≠ 0)
  | b6 (h : k = 1) (h2 : 0 < b)
  | b7 (h : 1 < k) (h2 : k ≤ 30) (h3 : k ≠ 28) (h4 : k ≠ 29) (h5 : n = 0) (h6 : 0 < b)
  | o1 (h : k = 1) (h2 : b = 0)
  | o2 (h : 1 < k) (h2 : k ≤ 30) (h3 : k ≠ 28) (h4 : k ≠ 29) (h5 : n = 0) (h6 : b = 0)
  | p1 (h : k = 28) (h2 : n = 0)
  | p2 (h : k = 29) (h2 : n = 0)
theorem way (k n : Int) (b : Nat) : Way k n b := by
  by_cases h1 : k < 1
  · exact .b1 h1
  by_cases h2 : 30 < k
  · exact .b2 h2
  by_cases h3 : k = 1
  · by_cases h4 : b = 0
    · exact .o1 h3 h4
    · exact .b6 h3 (by omega)
  by_cases h4 : k = 28
  · by_cases h5 : n = 0
    · exact .p1 h4 h5
    · exact .b3 h4 h5
  by_cases h5 : k = 29
  · by_cases h6 : n = 0
    · exact .p2 h5 h6
    · exact .b4 h5 h6
  by_cases h6 : n = 0
  · by_cases h7 : b = 0
    · exact .o2 (by omega) (by omega) h4 h5 h6 h7
    · exact .b7 (by omega) (by omega) h4 h5 h6 (by omega)
  · exact .b5 (by omega) (by omega) h4 h5 h6
theorem hasB_no {k : Int} (h1 : k ≠ 28) (h2 : k ≠ 29) : hasB k = false := by unfold hasB; rw [beq_eq_false_iff_ne.2 h1, beq_eq_false_iff_ne.2 h2]; rfl

set_option maxHeartbeats 3200000 in
theorem rcount_sz : ∀ (s : Nat) (f : Fo) (v : Value) (w : World) (d a : Nat), f.sz ≤ s → FS QA w v f → f.len ≤ 3518437208780 → WfB f → d ≤ 7 → a ≤ 128 →
    Calls Try.prog 20 #[v, .int .i64 d, .int .i64 a] w fun e w' => RCR f d a e ∧ Below w.heap.size w w' := by
  intro s
  induction s with
  | zero =>
    intro f v w d a hs h hl hwf hd ha
    obtain rfl : f = .nil := by cases f with
      | nil => rfl
      | cons k n b r => simp [Fo.sz] at hs
    obtain ⟨a1, cap, rfl⟩ := h.val
    simp only [Fo.len]
    by_cases hd6 : d ≤ 6
    · have hdi : (d : Int) ≤ 6 := by omega
      have HC : Hid (RCR .nil d a (.returned (.tuple #[.int .i64 (a : Int), .bool true]))) := .inl ⟨⟨by simp [okF, hd6], by simpa [tot] using ha⟩, by simp [tot]⟩
      clear hs hl hwf h
      go_enter Try.func20, Try.ntmps20
      go_wp2
      go_loop [2, 8] (fun n i => n = .int .i64 a ∧ i = .int .i64 0) (fun _ _ => 0)
      case atStart => exact ⟨rfl, rfl⟩
      case round =>
        obtain ⟨rfl, rfl⟩ := hrel
        go_wp2
        go_ret2
        exact ⟨HC.out, Below.refl _ _⟩
    · have hdi : (6 : Int) < d := by omega
      have HC : Hid (RCR .nil d a (.returned (.tuple #[.int .i64 (a : Int), .bool false]))) := .inr ⟨fun hc => by simp [okF] at hc; omega, _, rfl⟩
      clear hs hl hwf h
      go_enter Try.func20, Try.ntmps20
      go_wp2
      go_ret2
      exact ⟨HC.out, Below.refl _ _⟩
  | succ s ih =>
    intro f v w d a hs h hl hwf hd ha
    rcases h.shape with ⟨a1, cap, rfl, hf⟩ | ⟨g, o, cap, rfl, hq, hat⟩
    · subst hf
      exact ih .nil _ w d a (by simp [Fo.sz]) h hl hwf hd ha
    obtain ⟨n, hn⟩ : ∃ n, f.len = n := ⟨_, rfl⟩
    rw [hn] at hl ⊢
    have HN : Hid (f.len = n) := hn
    have HI := hidN ih
    have hgw : g < w.heap.size := hq
    have Hat := hidN hat
    have Hwf := hidN hwf
    by_cases hd6 : d ≤ 6
    · have hdi : (d : Int) ≤ 6 := by omega
      clear hn ih h hat hwf
      go_enter Try.func20, Try.ntmps20
      go_wp2
      go_loopw [2, 8] (fun x i wr => ∃ (k z : Nat), k ≤ n ∧ i = .int .i64 k ∧ x = .int .i64 z ∧ z ≤ 128 ∧ Hid (z = a + k + bt (f.take k) ∧ allO (f.take k) d = true) ∧ Below w.heap.size w wr) (fun _ i _ => n - (intOf i).toNat)
      case atStart => exact ⟨0, a, by omega, rfl, rfl, ha, ⟨by cases f <;> rfl, by cases f <;> rfl⟩, Below.refl _ _⟩
      case round =>
        obtain ⟨k, z, hk, rfl, rfl, hz, HZ, hbel⟩ := hrel
        have hsz := hbel.size
        have hzi : (z : Int) ≤ 128 := by omega
        by_cases hlt : k < n
        · by_cases hz8 : z = 128
          · have HC : Hid (RCR f d a (.returned (.tuple #[.int .i64 129, .bool false]))) := .inr ⟨fun hc => by
              have := HZ.out
              have h1 := tot_bt f
              have h2 := bt_take_le k f
              have h3 := HN.out
              omega, _, rfl⟩
            subst hz8
            go_wp2
            go_ret2
            exact ⟨HC.out, hbel⟩
          have hz7 : (z : Int) < 128 := by omega
          have hat' : FoAt QA wr f g o := Hat.out.move (fun b o hq => ⟨hbel.block b hq, Nat.lt_of_lt_of_le hq hsz⟩) (hbel.block g hgw)
          obtain ⟨kk, nn, b, r, sv, e1, e2, e3, c0, c1, c2, hsv⟩ := hat'.at (i := k) (by rw [HN.out]; exact hlt)
          obtain ⟨hb1, hb2⟩ := Hwf.out.at e1
          have hbs := Fo.sz_blk e1
          have HT := hidN e3
          have HD := hidN e1
          have Hs : Hid (FS QA wr sv b) := hsv
          obtain ⟨a1, cap1, rfl⟩ := hsv.val
          have hgr : g < wr.heap.size := by omega
          have hB1 := (Below.refl wr.heap.size wr).alloc (Nat.le_refl _) (.cells #[.int .i64 kk, .int .i64 nn, .slice a1 b.len cap1] 38)
          have HB1 := hidN hB1
          have HBX := hidN (hbel.trans (hB1.mono hsz))
          obtain ⟨blen, hblen⟩ : ∃ q, b.len = q := ⟨_, rfl⟩
          have HBL := hidN hblen
          have hWay := way kk nn blen
          rw [hblen] at hb1 c2 HB1 HBX Hs
          clear e1 e2 e3 hat' hsv hB1 hblen
          cases hWay with
          | b1 h =>
            have HC : Hid (RCR f d a (.returned (.tuple #[.int .i64 ((z : Int) + 1), .bool false]))) := .inr ⟨ok_not HD.out (.inl (by
              have hbl := HBL.out
              simp [okO, alone]; omega)), _, rfl⟩
            have e28 : (kk == 28) = false := beq_eq_false_iff_ne.2 (by omega)
            have e29 : (kk == 29) = false := beq_eq_false_iff_ne.2 (by omega)
            go_wp2
            go_ret2
            exact ⟨HC.out, HBX.out⟩
          | b2 h =>
            have HC : Hid (RCR f d a (.returned (.tuple #[.int .i64 ((z : Int) + 1), .bool false]))) := .inr ⟨ok_not HD.out (.inl (by
              have hbl := HBL.out
              simp [okO, alone]; omega)), _, rfl⟩
            have e28 : (kk == 28) = false := beq_eq_false_iff_ne.2 (by omega)
            have e29 : (kk == 29) = false := beq_eq_false_iff_ne.2 (by omega)
            have i1 : (1 : Int) ≤ kk := by omega
            go_wp2
            go_ret2
            exact ⟨HC.out, HBX.out⟩
          | b3 h h2 =>
            have HC : Hid (RCR f d a (.returned (.tuple #[.int .i64 ((z : Int) + 1), .bool false]))) := .inr ⟨ok_not HD.out (.inl (by
              have hbl := HBL.out
              subst h; simp [okO, alone, h2])), _, rfl⟩
            subst h
            have n0 : (nn == 0) = false := beq_eq_false_iff_ne.2 h2
            go_wp2
            go_ret2
            exact ⟨HC.out, HBX.out⟩
          | b4 h h2 =>
            have HC : Hid (RCR f d a (.returned (.tuple #[.int .i64 ((z : Int) + 1), .bool false]))) := .inr ⟨ok_not HD.out (.inl (by
              have hbl := HBL.out
              subst h; simp [okO, alone, h2])), _, rfl⟩
            subst h
            have n0 : (nn == 0) = false := beq_eq_false_iff_ne.2 h2
            go_wp2
            go_ret2
            exact ⟨HC.out, HBX.out⟩
          | b5 h h2 h3 h4 h5 =>
            have HC : Hid (RCR f d a (.returned (.tuple #[.int .i64 ((z : Int) + 1), .bool false]))) := .inr ⟨ok_not HD.out (.inl (by
              have hbl := HBL.out
              have : kk ≠ 1 := by omega
              simp [okO, alone, h5, this])), _, rfl⟩
            have e1 : (kk == 1) = false := beq_eq_false_iff_ne.2 (by omega)
            have e28 : (kk == 28) = false := beq_eq_false_iff_ne.2 h3
            have e29 : (kk == 29) = false := beq_eq_false_iff_ne.2 h4
            have i1 : (1 : Int) ≤ kk := by omega
            have n0 : (nn == 0) = false := beq_eq_false_iff_ne.2 h5
            go_wp2
            go_ret2
            exact ⟨HC.out, HBX.out⟩
          | b6 h h2 =>
            have HC : Hid (RCR f d a (.returned (.tuple #[.int .i64 ((z : Int) + 1), .bool false]))) := .inr ⟨ok_not HD.out (.inl (by
              have hbl := HBL.out
              subst h; have : b.len ≠ 0 := by omega
              simp [okO, alone, hasB, this])), _, rfl⟩
            subst h
            have hbi : (0 : Int) < (blen : Int) := by omega
            go_wp2
            go_ret2
            exact ⟨HC.out, HBX.out⟩
          | b7 h h2 h3 h4 h5 h6 =>
            have HC : Hid (RCR f d a (.returned (.tuple #[.int .i64 ((z : Int) + 1), .bool false]))) := .inr ⟨ok_not HD.out (.inl (by
              have hbl := HBL.out
              have : b.len ≠ 0 := by omega
              simp [okO, alone, hasB_no h3 h4, this])), _, rfl⟩
            have e1 : (kk == 1) = false := beq_eq_false_iff_ne.2 (by omega)
            have e28 : (kk == 28) = false := beq_eq_false_iff_ne.2 h3
            have e29 : (kk == 29) = false := beq_eq_false_iff_ne.2 h4
            have i1 : (1 : Int) ≤ kk := by omega
            subst h5
            have hbi : (0 : Int) < (blen : Int) := by omega
            go_wp2
            go_ret2
            exact ⟨HC.out, HBX.out⟩
          | o1 h h2 =>
            have HZ2 : Hid (z + 1 = a + (k + 1) + bt (f.take (k + 1)) ∧ allO (f.take (k + 1)) d = true) := by
              have := HZ.out
              have hbl := HBL.out
              unfold Hid
              rw [HT.out, bt_app, allO_app]
              subst h; have hb0 : b.len = 0 := by omega
              simp [bt, allO, okO, alone, hasB, this.2, hb0]
              omega
            subst h
            subst h2
            go_wp2
            go_roundw
            case rel => exact ⟨k + 1, z + 1, by omega, by go_num, by go_num, by omega, HZ2, HBX.out⟩
            case measure => simp [intOf]; omega
          | o2 h h2 h3 h4 h5 h6 =>
            have HZ2 : Hid (z + 1 = a + (k + 1) + bt (f.take (k + 1)) ∧ allO (f.take (k + 1)) d = true) := by
              have := HZ.out
              have hbl := HBL.out
              unfold Hid
              rw [HT.out, bt_app, allO_app]
              have hb0 : b.len = 0 := by omega
              have hk1 : 1 ≤ kk := by omega
              simp [bt, allO, okO, alone, hasB_no h3 h4, this.2, hb0, h5, hk1, h2]
              omega
            have e1 : (kk == 1) = false := beq_eq_false_iff_ne.2 (by omega)
            have e28 : (kk == 28) = false := beq_eq_false_iff_ne.2 h3
            have e29 : (kk == 29) = false := beq_eq_false_iff_ne.2 h4
            have i1 : (1 : Int) ≤ kk := by omega
            subst h5
            subst h6
            go_wp2
            go_roundw
            case rel => exact ⟨k + 1, z + 1, by omega, by go_num, by go_num, by omega, HZ2, HBX.out⟩
            case measure => simp [intOf]; omega
          | p1 h h2 =>
            subst h
            subst h2
            have hfs1 := Hs.out.below HB1.out
            have hc := HI.out b _ _ (d + 1) (z + 1) (by omega) hfs1 (by rw [HBL.out]; exact hb1) hb2 (by omega) (by omega)
            rw [show ((d + 1 : Nat) : Int) = (d : Int) + 1 by omega, show ((z + 1 : Nat) : Int) = (z : Int) + 1 by omega] at hc
            have Hc := hidN hc
            clear hc hfs1

            have hdi2 : (0 : Int) ≤ d := by omega
            go_wp2_with (go_at_call 20; refine Hc.out.mono ?_)
            rintro e w2 ⟨hcr, hb2'⟩
            have HB3 := hidN (HBX.out.trans (hb2'.mono (by simp; omega)))
            rcases hcr with ⟨⟨hk1, hk2⟩, rfl⟩ | ⟨hk1, zz, rfl⟩
            · have HZ2 : Hid (z + 1 + tot b = a + (k + 1) + bt (f.take (k + 1)) ∧ allO (f.take (k + 1)) d = true) := by
                have := HZ.out
                have hbl := HBL.out
                unfold Hid
                rw [HT.out, bt_app, allO_app]
                simp [bt, allO, okO, alone, hasB, this.2, hk1]
                omega
              clear hk1 hb2'
              go_wp2
              go_roundw
              case rel => exact ⟨k + 1, z + 1 + tot b, by omega, by go_num, rfl, hk2, HZ2, HB3.out⟩
              case measure => simp [intOf]; omega
            · have HC : Hid (RCR f d a (.returned (.tuple #[.int .i64 zz, .bool false]))) := .inr ⟨ok_not HD.out (by
                have := HZ.out
                have hnn := HN.out
                by_cases hof : okF b (d + 1) = true
                · right
                  have : ¬ z + 1 + tot b ≤ 128 := fun h => hk1 ⟨hof, h⟩
                  simp [hasB]
                  omega
                · left
                  simp [okO, hasB, hof]), _, rfl⟩
              clear hk1 hb2'
              go_wp2
              go_ret2
              exact ⟨HC.out, HB3.out⟩
          | p2 h h2 =>
            subst h
            subst h2
            have hfs1 := Hs.out.below HB1.out
            have hc := HI.out b _ _ (d + 1) (z + 1) (by omega) hfs1 (by rw [HBL.out]; exact hb1) hb2 (by omega) (by omega)
            rw [show ((d + 1 : Nat) : Int) = (d : Int) + 1 by omega, show ((z + 1 : Nat) : Int) = (z : Int) + 1 by omega] at hc
            have Hc := hidN hc
            clear hc hfs1

            have hdi2 : (0 : Int) ≤ d := by omega
            go_wp2_with (go_at_call 20; refine Hc.out.mono ?_)
            rintro e w2 ⟨hcr, hb2'⟩
            have HB3 := hidN (HBX.out.trans (hb2'.mono (by simp; omega)))
            rcases hcr with ⟨⟨hk1, hk2⟩, rfl⟩ | ⟨hk1, zz, rfl⟩
            · have HZ2 : Hid (z + 1 + tot b = a + (k + 1) + bt (f.take (k + 1)) ∧ allO (f.take (k + 1)) d = true) := by
                have := HZ.out
                have hbl := HBL.out
                unfold Hid
                rw [HT.out, bt_app, allO_app]
                simp [bt, allO, okO, alone, hasB, this.2, hk1]
                omega
              clear hk1 hb2'
              go_wp2
              go_roundw
              case rel => exact ⟨k + 1, z + 1 + tot b, by omega, by go_num, rfl, hk2, HZ2, HB3.out⟩
              case measure => simp [intOf]; omega
            · have HC : Hid (RCR f d a (.returned (.tuple #[.int .i64 zz, .bool false]))) := .inr ⟨ok_not HD.out (by
                have := HZ.out
                have hnn := HN.out
                by_cases hof : okF b (d + 1) = true
                · right
                  have : ¬ z + 1 + tot b ≤ 128 := fun h => hk1 ⟨hof, h⟩
                  simp [hasB]
                  omega
                · left
                  simp [okO, hasB, hof]), _, rfl⟩
              clear hk1 hb2'
              go_wp2
              go_ret2
              exact ⟨HC.out, HB3.out⟩
        · have hke : k = n := by omega
          have HC : Hid (RCR f d a (.returned (.tuple #[.int .i64 (z : Int), .bool true]))) := by
            have := HZ.out
            have hnn := HN.out
            have hbt : bt (f.take k) = bt f := by rw [hke, ← hnn, Fo.take_all _ f (Nat.le_refl _)]
            have hal : allO f d = true := by have := this.2; rw [hke, ← hnn, Fo.take_all _ f (Nat.le_refl _)] at this; exact this
            have ht := tot_bt f
            refine .inl ⟨⟨by rw [okF_all, hal]; simp [hd6], by omega⟩, ?_⟩
            have : z = a + tot f := by omega
            rw [this]
          have hlt' : n ≤ k := by omega
          clear hke
          go_wp2
          go_ret2
          exact ⟨HC.out, hbel⟩
    · have HC : Hid (RCR f d a (.returned (.tuple #[.int .i64 (a : Int), .bool false]))) := .inr ⟨fun hc => hd6 (okF_deep hc.1), _, rfl⟩
      have hdi : (6 : Int) < d := by omega
      clear hn ih h hat hwf
      go_enter Try.func20, Try.ntmps20
      go_wp2
      go_ret2
      exact ⟨HC.out, Below.refl _ _⟩
end Go.Proofs.Ytjegnffhegiajaa
