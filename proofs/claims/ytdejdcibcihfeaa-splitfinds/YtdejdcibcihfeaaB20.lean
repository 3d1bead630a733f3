/- The page's own Take: what it answers, for every string. -/
import Derived.Test.YtdejdcibcihfeaaB18
namespace Go.Proofs.Ytdejdcibcihfeaa
open Go.RowKit
set_option linter.unusedVariables false
set_option maxRecDepth 100000

/-- .. where the byte is taken modulo 128 as it stands. -/
theorem or_step' (k : Nat) (x c : Int) (hx0 : 0 ≤ x) (hx : x < 2 ^ (7 * k)) (hc0 : 0 ≤ c) (hc : c < 256) (hk : k ≤ 8 ∨ k = 9 ∧ c ≤ 1) :
    bits .or .u64 x (IntKind.u64.wrap (c % 128 * 2 ^ (7 * k))) = x + c % 128 * 2 ^ (7 * k) := by
  have h := (or_step k x c hx0 hx hc0 hc hk).1
  rwa [andNot128 c hc0 hc, IntWalk.u64_in (c % 128) (by omega)] at h

set_option maxHeartbeats 400000 in
set_option maxRecDepth 100000 in
theorem rtake_any (s : ByteArray) (w : World) (hs : s.size ≤ maxLen) :
    Calls Try.prog 34 #[.string s] w fun e w' => e = .returned (.tuple #[.int .i64 (takeOf s).1, .int .i64 (takeOf s).2.1, .int .i64 (takeOf s).2.2]) ∧ w' = w := by
  unfold maxLen at hs
  go_enter Try.func34, Try.ntmps34
  go_wp2
  go_loop [5, 6] (fun u i => ∃ (k : Nat) (x : Int), k ≤ s.size ∧ k ≤ 9 ∧ i = .int .i64 k ∧ u = .int .u64 x ∧ 0 ≤ x ∧ Hid (x < 2 ^ (7 * k)) ∧ Hid (takeOf s = takeL (s.data.toList.drop k) k x)) (fun _ i => s.size - (intOf i).toNat)
  case atStart => exact ⟨0, 0, by omega, by omega, rfl, rfl, by omega, by unfold Hid; decide, rfl⟩
  case round =>
    obtain ⟨k, x, hk, hk9, rfl, rfl, hx0, HX, HT⟩ := hrel
    by_cases hlt : k < s.size
    · have hc1 : s[k].toNat < 256 := s[k].toNat_lt
      have hd := drop_byte s k hlt
      by_cases h9 : k = 9 ∧ 1 < s[k].toNat
      · obtain ⟨h9, hb⟩ := h9
        have HE : Hid (takeOf s = (0, 0, 7)) := by rw [HT.out, hd]; exact takeL_nine _ _ _ _ h9 hb
        have h9' : 9 ≤ k := by omega
        clear h9 hd HT HX
        go_wp2
        go_ret3
        exact ⟨ret3 HE.out rfl rfl rfl, rfl⟩
      · obtain ⟨_, hl0, hl1, hl2⟩ := or_step k x s[k].toNat hx0 HX.out (by omega) (by omega) (by omega)
        have ho := or_step' k x s[k].toNat hx0 HX.out (by omega) (by omega) (by omega)
        by_cases hb : 128 ≤ s[k].toNat
        · have HE : Hid (takeOf s = takeL (s.data.toList.drop (k + 1)) (k + 1) (x + (s[k].toNat : Int) % 128 * 2 ^ (7 * k))) := by rw [HT.out, hd]; exact takeL_more _ _ _ _ (by omega) hb
          have HX2 : Hid (x + (s[k].toNat : Int) % 128 * 2 ^ (7 * k) < 2 ^ (7 * (k + 1))) := hl2 (by omega)
          have h8 : k ≤ 8 := by omega
          have HO : Hid (_ = _) := ho
          clear ho hd HT HX hl2 hl1 h9
          go_wp2
          go_round
          case rel => exact ⟨k + 1, _, by omega, by omega, by go_num, by rw [HO.out], hl0, HX2, HE⟩
          case measure => simp [intOf]; omega
        · have hb' : s[k].toNat < 128 := by omega
          by_cases hz : s[k].toNat = 0 ∧ 0 < k
          · obtain ⟨hz, hk0⟩ := hz
            have HE : Hid (takeOf s = (0, 0, 7)) := by rw [HT.out, hd]; exact takeL_zero _ _ _ _ hk0 hz
            have hz' : s[k].toNat ≤ 0 := by omega
            have hk0' : (0 : Int) < k := by omega
            clear ho hd HT HX hl2 hl1 h9 hz hb
            go_wp2
            all_goals
              go_ret3
              exact ⟨ret3 HE.out rfl rfl rfl, rfl⟩
          · have HE : Hid (takeOf s = (zag (x + (s[k].toNat : Int) % 128 * 2 ^ (7 * k)), (k : Int) + 1, 0)) := by rw [HT.out, hd]; exact takeL_end _ _ _ _ (by omega) hb' (by omega)
            have ho9 : k = 9 → bits .or .u64 x ((s[k].toNat : Int) % 128 * 9223372036854775808) = x + (s[k].toNat : Int) % 128 * 2 ^ (7 * k) := by
              intro h9e
              rw [← ho, show (2 : Int) ^ (7 * k) = 9223372036854775808 by rw [h9e]; rfl, IntWalk.u64_in _ (by omega)]
            generalize x + (s[k].toNat : Int) % 128 * 2 ^ (7 * k) = y at *
            clear hd HT HX hl2 hb
            by_cases h9e : k = 9
            · have ho := ho9 h9e
              have hq : 9 ≤ k := by omega
              have hc : (s[k].toNat : Int) ≤ 1 := by omega
              have hz0 : ((s[k].toNat : Int) == 0) = false := by simp; omega
              clear h9 hz h9e ho9
              by_cases h2 : y % 2 = 1
              · have ht : (bits .and .u64 y 1 == 1) = true := by rw [and1 y hl0 hl1, h2]; rfl
                have H : Hid (bits .xor .i64 (-1) (y / 2) = zag y) := by unfold Hid zag; rw [if_pos h2, not_i64 _ (by omega) (by omega)]
                clear h2
                go_wp2
                go_ret3
                exact ⟨ret3 HE.out H.out (by omega) rfl, rfl⟩
              · have ht : (bits .and .u64 y 1 == 1) = false := by rw [and1 y hl0 hl1]; simp; omega
                have H : Hid (y / 2 = zag y) := by unfold Hid zag; rw [if_neg h2]
                clear h2
                go_wp2
                go_ret3
                exact ⟨ret3 HE.out H.out (by omega) rfl, rfl⟩
            · have hq : ((k : Int) == 9) = false := by simp; omega
              by_cases hz1 : s[k].toNat = 0
              · have hz0 : ((s[k].toNat : Int) == 0) = true := by simp; omega
                have hk0 : (k : Int) ≤ 0 := by omega
                clear h9 hz h9e hz1 ho9
                by_cases h2 : y % 2 = 1
                · have ht : (bits .and .u64 y 1 == 1) = true := by rw [and1 y hl0 hl1, h2]; rfl
                  have H : Hid (bits .xor .i64 (-1) (y / 2) = zag y) := by unfold Hid zag; rw [if_pos h2, not_i64 _ (by omega) (by omega)]
                  clear h2
                  go_wp2
                  go_ret3
                  exact ⟨ret3 HE.out H.out (by omega) rfl, rfl⟩
                · have ht : (bits .and .u64 y 1 == 1) = false := by rw [and1 y hl0 hl1]; simp; omega
                  have H : Hid (y / 2 = zag y) := by unfold Hid zag; rw [if_neg h2]
                  clear h2
                  go_wp2
                  go_ret3
                  exact ⟨ret3 HE.out H.out (by omega) rfl, rfl⟩
              · have hz0 : ((s[k].toNat : Int) == 0) = false := by simp; omega
                clear h9 hz h9e hz1 ho9
                by_cases h2 : y % 2 = 1
                · have ht : (bits .and .u64 y 1 == 1) = true := by rw [and1 y hl0 hl1, h2]; rfl
                  have H : Hid (bits .xor .i64 (-1) (y / 2) = zag y) := by unfold Hid zag; rw [if_pos h2, not_i64 _ (by omega) (by omega)]
                  clear h2
                  go_wp2
                  go_ret3
                  exact ⟨ret3 HE.out H.out rfl rfl, rfl⟩
                · have ht : (bits .and .u64 y 1 == 1) = false := by rw [and1 y hl0 hl1]; simp; omega
                  have H : Hid (y / 2 = zag y) := by unfold Hid zag; rw [if_neg h2]
                  clear h2
                  go_wp2
                  go_ret3
                  exact ⟨ret3 HE.out H.out rfl rfl, rfl⟩
    · have HE : Hid (takeOf s = (0, 0, 6)) := by rw [HT.out, drop_end s k (by omega)]; exact takeL_nil _ _
      clear HT HX
      go_wp2
      go_ret3
      exact ⟨ret3 HE.out rfl rfl rfl, rfl⟩
end Go.Proofs.Ytdejdcibcihfeaa
