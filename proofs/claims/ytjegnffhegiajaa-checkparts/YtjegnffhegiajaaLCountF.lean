/- Count: how many ops there are, and whether they may be: count, Count, Check. -/
import Derived.Test.YtjegnffhegiajaaLCount
namespace Go.Proofs.Ytjegnffhegiajaa
open Go.RowKit
set_option linter.unusedVariables false
set_option maxRecDepth 100000

/-- What count tells. -/
def CR (f : Fo) (d a : Nat) (e : Ending) : Prop := ((okF f d = true ∧ a + tot f ≤ 128) ∧ e = .returned (.tuple #[.int .i64 ((a + tot f : Nat) : Int), .bool true])) ∨ (¬ (okF f d = true ∧ a + tot f ≤ 128) ∧ e = .returned (.tuple #[.int .i64 0, .bool false]))

set_option maxHeartbeats 1600000 in
theorem count_sz : ∀ (s : Nat) (f : Fo) (v : Value) (w : World) (d a : Nat), f.sz ≤ s → FS QA w v f → f.len ≤ 3518437208780 → WfB f → d ≤ 7 → a ≤ 128 →
    Calls Try.prog 30 #[v, .int .i64 d, .int .i64 a] w fun e w' => CR f d a e ∧ Below w.heap.size w w' := by
  intro s
  induction s with
  | zero =>
    intro f v w d a hs h hl hwf hd ha
    obtain rfl : f = .nil := by cases f with
      | nil => rfl
      | cons k n b r => simp [Fo.sz] at hs
    obtain ⟨a1, cap, rfl⟩ := h.val
    simp only [Fo.len]
    have hai : (a : Int) ≤ 128 := by omega
    by_cases hd6 : d ≤ 6
    · have hdi : (d : Int) ≤ 6 := by omega
      have HC : Hid (CR .nil d a (.returned (.tuple #[.int .i64 (a : Int), .bool true]))) := .inl ⟨⟨by simp [okF, hd6], by simpa [tot] using ha⟩, by simp [tot]⟩
      clear hs hl hwf h
      go_enter Try.func30, Try.ntmps30
      go_wp2
      go_loop [6, 7, 22] (fun n _ i => n = .int .i64 a ∧ i = .int .i64 0) (fun _ _ _ => 0)
      case atStart => exact ⟨rfl, rfl⟩
      case round =>
        obtain ⟨rfl, rfl⟩ := hrel
        go_wp2
        go_ret2
        exact ⟨HC.out, Below.refl _ _⟩
    · have hdi : (6 : Int) < d := by omega
      have HC : Hid (CR .nil d a (.returned (.tuple #[.int .i64 0, .bool false]))) := .inr ⟨fun hc => by simp [okF] at hc; omega, rfl⟩
      clear hs hl hwf h
      go_enter Try.func30, Try.ntmps30
      go_wp2
      go_ret2
      exact ⟨HC.out, Below.refl _ _⟩
  | succ s ih =>
    intro f v w d a hs h hl hwf hd ha
    rcases h.shape with ⟨a1, cap, rfl, hf⟩ | ⟨g, o, cap, rfl, hq, hat⟩
    · subst hf
      exact ih .nil _ w d a (by simp [Fo.sz]) h hl hwf hd ha
    have hai : (a : Int) ≤ 128 := by omega
    obtain ⟨n, hn⟩ : ∃ n, f.len = n := ⟨_, rfl⟩
    rw [hn] at hl ⊢
    have HN : Hid (f.len = n) := hn
    have HI := hidN ih
    have hgw : g < w.heap.size := hq
    have Hat := hidN hat
    have Hwf := hidN hwf
    by_cases hgo : a + n ≤ 128 ∧ d ≤ 6
    · obtain ⟨hn1, hd6⟩ := hgo
      have hdi : (d : Int) ≤ 6 := by omega
      have hni : (a : Int) + (n : Int) ≤ 128 := by omega
      clear hn ih h hat hwf
      go_enter Try.func30, Try.ntmps30
      go_wp2
      go_loopw [6, 7, 22] (fun x _ i wr => ∃ (k z : Nat), k ≤ n ∧ i = .int .i64 k ∧ x = .int .i64 z ∧ z ≤ 128 ∧ Hid (z = a + n + bt (f.take k) ∧ allO (f.take k) d = true) ∧ Below w.heap.size w wr) (fun _ _ i _ => n - (intOf i).toNat)
      case atStart => exact ⟨0, a + n, by omega, rfl, by go_num, by omega, ⟨by cases f <;> rfl, by cases f <;> rfl⟩, Below.refl _ _⟩
      case round =>
        obtain ⟨k, z, hk, rfl, rfl, hz, HZ, hbel⟩ := hrel
        have hsz := hbel.size
        by_cases hlt : k < n
        · have hat' : FoAt QA wr f g o := Hat.out.move (fun b o hq => ⟨hbel.block b hq, Nat.lt_of_lt_of_le hq hsz⟩) (hbel.block g hgw)
          obtain ⟨kk, nn, b, r, sv, e1, e2, e3, c0, c1, c2, hsv⟩ := hat'.at (i := k) (by rw [HN.out]; exact hlt)
          obtain ⟨hb1, hb2⟩ := Hwf.out.at e1
          have hbs := Fo.sz_blk e1
          have HT := hidN e3
          have HD := hidN e1
          have Hs : Hid (FS QA wr sv b) := hsv
          obtain ⟨a1, cap1, rfl⟩ := hsv.val
          have hgr : g < wr.heap.size := by omega
          have hB1 := (Below.refl wr.heap.size wr).alloc (Nat.le_refl _) (.cells #[.int .i64 kk, .int .i64 nn, .slice a1 b.len cap1] 38)
          have HB1 := hidN hB1
          have Ha := hidN (alone_any kk nn a1 b cap1 (wr.alloc (.cells #[.int .i64 kk, .int .i64 nn, .slice a1 b.len cap1] 38)))
          clear e1 e2 e3 hat' hsv hB1
          cases hal : alone kk nn b with
          | false =>
            rw [hal] at Ha
            have HC : Hid (CR f d a (.returned (.tuple #[.int .i64 0, .bool false]))) := .inr ⟨ok_not HD.out (.inl (by simp [okO, hal])), rfl⟩
            clear hal
            go_wp2_with (go_at_call 32; refine Ha.out.mono ?_; rintro e w1 ⟨rfl, hb1⟩)
            go_ret2
            exact ⟨HC.out, (hbel.trans (HB1.out.mono hsz)).trans (hb1.mono (by simp; omega))⟩
          | true =>
            rw [hal] at Ha
            have HAL := hidN hal
            clear hal
            have Hh := hidN (fun W => hasB_any kk W)
            cases hbk : hasB kk with
            | false =>
              rw [hbk] at Hh
              have HZ2 : Hid (z = a + n + bt (f.take (k + 1)) ∧ allO (f.take (k + 1)) d = true) := by
                have := HZ.out
                unfold Hid
                rw [HT.out, bt_app, allO_app]
                simp [bt, allO, okO, HAL.out, hbk, this.2]
                exact this.1
              clear hbk
              go_wp2_with fail
              refine Ha.out.mono ?_
              rintro e w1 ⟨rfl, hb1⟩
              have hbox := (BlkO.new wr kk nn (.slice a1 b.len cap1)).step hb1
              obtain ⟨d0, d1, d2⟩ := hbox.cells
              have HB2 := hidN ((hbel.trans (HB1.out.mono hsz)).trans (hb1.mono (by simp; omega)))
              clear hbox hb1 c0 c1 c2
              go_wp2_with (go_at_call 33; refine (Hh.out _).mono ?_; rintro e w' ⟨rfl, rfl⟩)
              go_roundw
              case rel => exact ⟨k + 1, z, by omega, by go_num, rfl, hz, HZ2, HB2.out⟩
              case measure => simp [intOf]; omega
            | true =>
              rw [hbk] at Hh
              have HBK := hidN hbk
              clear hbk
              go_wp2_with fail
              refine Ha.out.mono ?_
              rintro e w1 ⟨rfl, hb1⟩
              have hbox := (BlkO.new wr kk nn (.slice a1 b.len cap1)).step hb1
              obtain ⟨d0, d1, d2⟩ := hbox.cells
              have hbw1 := (hbel.trans (HB1.out.mono hsz)).trans (hb1.mono (by simp; omega))
              have hs1 := hbw1.size
              have hfs1 : FS QA w1 (.slice a1 b.len cap1) b := (Hs.out.below HB1.out).below hb1
              have hc := HI.out b _ w1 (d + 1) z (by omega) hfs1 (by omega) hb2 (by omega) hz
              rw [show ((d + 1 : Nat) : Int) = (d : Int) + 1 by omega] at hc
              have Hc := hidN hc
              have HB2 := hidN hbw1
              clear hbox hb1 c0 c1 c2 hbw1 hfs1 hc
              have hdi2 : (0 : Int) ≤ d := by omega
              go_wp2_with (first | (go_at_call 33; refine (Hh.out _).mono ?_; rintro e w' ⟨rfl, rfl⟩))
              refine Hc.out.mono ?_
              rintro e w2 ⟨hcr, hb2'⟩
              have HB3 := hidN (HB2.out.trans (hb2'.mono hs1))
              rcases hcr with ⟨⟨hk1, hk2⟩, rfl⟩ | ⟨hk1, rfl⟩
              · have HZ2 : Hid (z + tot b = a + n + bt (f.take (k + 1)) ∧ allO (f.take (k + 1)) d = true) := by
                  have := HZ.out
                  unfold Hid
                  rw [HT.out, bt_app, allO_app]
                  simp [bt, allO, okO, HAL.out, HBK.out, this.2, hk1]
                  omega
                clear hk1 hb2'
                go_wp2
                go_roundw
                case rel => exact ⟨k + 1, z + tot b, by omega, by go_num, rfl, hk2, HZ2, HB3.out⟩
                case measure => simp [intOf]; omega
              · have HC : Hid (CR f d a (.returned (.tuple #[.int .i64 0, .bool false]))) := .inr ⟨ok_not HD.out (by
                  have := HZ.out
                  have hnn := HN.out
                  by_cases hof : okF b (d + 1) = true
                  · right
                    have : ¬ z + tot b ≤ 128 := fun h => hk1 ⟨hof, h⟩
                    rw [HBK.out]
                    simp
                    omega
                  · left
                    simp [okO, HBK.out, hof]), rfl⟩
                clear hk1 hb2'
                go_wp2
                go_ret2
                exact ⟨HC.out, HB3.out⟩
        · have hke : k = n := by omega
          have HC : Hid (CR f d a (.returned (.tuple #[.int .i64 (z : Int), .bool true]))) := by
            have := HZ.out
            have hnn := HN.out
            rw [hke, ← hnn, Fo.take_all _ f (Nat.le_refl _)] at this
            have ht := tot_bt f
            refine .inl ⟨⟨by rw [okF_all, this.2]; simp [hd6], by omega⟩, ?_⟩
            have : z = a + tot f := by omega
            rw [this]
          have hlt' : n ≤ k := by omega
          clear hke
          go_wp2
          go_ret2
          exact ⟨HC.out, hbel⟩
    · have HC : Hid (CR f d a (.returned (.tuple #[.int .i64 0, .bool false]))) := .inr ⟨fun hc => hgo (by
        have h1 := okF_deep hc.1
        have h2 := tot_len f
        rw [hn] at h2
        omega), rfl⟩
      clear hn ih h hat hwf
      by_cases hn1 : a + n ≤ 128
      · have hni : (a : Int) + (n : Int) ≤ 128 := by omega
        have hdi : (6 : Int) < d := by omega
        clear hgo
        go_enter Try.func30, Try.ntmps30
        go_wp2
        go_ret2
        exact ⟨HC.out, Below.refl _ _⟩
      · have hni : (128 : Int) < (a : Int) + (n : Int) := by omega
        clear hgo
        go_enter Try.func30, Try.ntmps30
        go_wp2
        go_ret2
        exact ⟨HC.out, Below.refl _ _⟩
end Go.Proofs.Ytjegnffhegiajaa
