/- num.Take, and the law's num1 over it: what each answers, for every string. -/
import Derived.Test.YtdejdcibcihfeaaB17
namespace Go.Proofs.Ytdejdcibcihfeaa
open Go.RowKit
set_option linter.unusedVariables false
set_option maxRecDepth 100000

theorem ret3 {a b c a' b' c' : Int} {t : Int × Int × Int} (h : t = (a', b', c')) (h1 : a = a') (h2 : b = b') (h3 : c = c') :
    Ending.returned (.tuple #[.int .i64 a, .int .i64 b, .int .i64 c]) = .returned (.tuple #[.int .i64 t.1, .int .i64 t.2.1, .int .i64 t.2.2]) := by rw [h, h1, h2, h3]

set_option maxHeartbeats 400000 in
set_option maxRecDepth 100000 in
theorem take_any (s : ByteArray) (w : World) (hs : s.size ≤ maxLen) :
    Calls Try.prog 36 #[.string s] w fun e w' => e = .returned (.tuple #[.int .i64 (takeOf s).1, .int .i64 (takeOf s).2.1, .int .i64 (takeOf s).2.2]) ∧ w' = w := by
  unfold maxLen at hs
  go_enter Try.func36, Try.ntmps36
  go_wp2
  go_loop [5, 10] (fun u i => ∃ (k : Nat) (x : Int), k ≤ s.size ∧ k ≤ 9 ∧ i = .int .i64 k ∧ u = .int .u64 x ∧ 0 ≤ x ∧ Hid (x < 2 ^ (7 * k)) ∧ Hid (takeOf s = takeL (s.data.toList.drop k) k x)) (fun _ i => s.size - (intOf i).toNat)
  case atStart => exact ⟨0, 0, by omega, by omega, rfl, rfl, by omega, by unfold Hid; decide, rfl⟩
  case round =>
    obtain ⟨k, x, hk, hk9, rfl, rfl, hx0, HX, HT⟩ := hrel
    by_cases hlt : k < s.size
    · have hc1 : s[k].toNat < 256 := s[k].toNat_lt
      have hd := drop_byte s k hlt
      by_cases h9 : k = 9 ∧ 1 < s[k].toNat
      · obtain ⟨h9, hb⟩ := h9
        have HE : Hid (takeOf s = (0, 0, 7)) := by rw [HT.out, hd]; exact takeL_nine _ _ _ _ h9 hb
        have h9' : 9 ≤ k := by omega
        clear h9 hd HT HX
        go_wp2
        go_ret3
        exact ⟨ret3 HE.out rfl rfl rfl, rfl⟩
      · obtain ⟨ho, hl0, hl1, hl2⟩ := or_step k x s[k].toNat hx0 HX.out (by omega) (by omega) (by omega)
        by_cases hb : 128 ≤ s[k].toNat
        · have HE : Hid (takeOf s = takeL (s.data.toList.drop (k + 1)) (k + 1) (x + (s[k].toNat : Int) % 128 * 2 ^ (7 * k))) := by rw [HT.out, hd]; exact takeL_more _ _ _ _ (by omega) hb
          have HX2 : Hid (x + (s[k].toNat : Int) % 128 * 2 ^ (7 * k) < 2 ^ (7 * (k + 1))) := hl2 (by omega)
          have h8 : k ≤ 8 := by omega
          have HO : Hid (_ = _) := ho
          clear ho hd HT HX hl2 hl1 h9
          go_wp2
          go_round
          case rel => exact ⟨k + 1, _, by omega, by omega, by go_num, by rw [HO.out], hl0, HX2, HE⟩
          case measure => simp [intOf]; omega
        · have hb' : s[k].toNat < 128 := by omega
          by_cases hz : s[k].toNat = 0 ∧ 0 < k
          · obtain ⟨hz, hk0⟩ := hz
            have HE : Hid (takeOf s = (0, 0, 7)) := by rw [HT.out, hd]; exact takeL_zero _ _ _ _ hk0 hz
            have hz' : s[k].toNat ≤ 0 := by omega
            have hk0' : (0 : Int) < k := by omega
            clear ho hd HT HX hl2 hl1 h9 hz hb
            go_wp2
            all_goals
              go_ret3
              exact ⟨ret3 HE.out rfl rfl rfl, rfl⟩
          · have HE : Hid (takeOf s = (zag (x + (s[k].toNat : Int) % 128 * 2 ^ (7 * k)), (k : Int) + 1, 0)) := by rw [HT.out, hd]; exact takeL_end _ _ _ _ (by omega) hb' (by omega)
            have HO : Hid (_ = _) := ho
            clear ho hd HT HX hl2 hb
            by_cases h9e : k = 9
            · have hq : 9 ≤ k := by omega
              have hc : (s[k].toNat : Int) ≤ 1 := by omega
              have hz0 : ((s[k].toNat : Int) == 0) = false := by simp; omega
              have HO9 : Hid (bits .or .u64 x (IntKind.u64.wrap (IntKind.u64.wrap (bits .andNot .u8 (s[k].toNat : Int) 128) * 9223372036854775808)) = x + (s[k].toNat : Int) % 128 * 2 ^ (7 * k)) := by
                unfold Hid
                rw [show (9223372036854775808 : Int) = 2 ^ (7 * k) by rw [h9e]; rfl]
                exact HO.out
              clear h9 hz h9e HO
              go_wp2_with (go_at_call 38; rw [HO9.out]; refine (turnBack_any _ _ hl0 hl1).mono ?_; rintro e w' ⟨rfl, rfl⟩)
              go_ret3
              exact ⟨ret3 HE.out rfl (by omega) rfl, rfl⟩
            · have hq : ((k : Int) == 9) = false := by simp; omega
              by_cases hz1 : s[k].toNat = 0
              · have hz0 : ((s[k].toNat : Int) == 0) = true := by simp; omega
                have hk0 : (k : Int) ≤ 0 := by omega
                clear h9 hz h9e hz1
                go_wp2_with (go_at_call 38; rw [HO.out]; refine (turnBack_any _ _ hl0 hl1).mono ?_; rintro e w' ⟨rfl, rfl⟩)
                go_ret3
                exact ⟨ret3 HE.out rfl rfl rfl, rfl⟩
              · have hz0 : ((s[k].toNat : Int) == 0) = false := by simp; omega
                clear h9 hz h9e hz1
                go_wp2_with (go_at_call 38; rw [HO.out]; refine (turnBack_any _ _ hl0 hl1).mono ?_; rintro e w' ⟨rfl, rfl⟩)
                go_ret3
                exact ⟨ret3 HE.out rfl rfl rfl, rfl⟩
    · have HE : Hid (takeOf s = (0, 0, 6)) := by rw [HT.out, drop_end s k (by omega)]; exact takeL_nil _ _
      clear HT HX
      go_wp2
      go_ret3
      exact ⟨ret3 HE.out rfl rfl rfl, rfl⟩
end Go.Proofs.Ytdejdcibcihfeaa
