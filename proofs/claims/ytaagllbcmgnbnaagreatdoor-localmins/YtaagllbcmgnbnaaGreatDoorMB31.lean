/- Texts laid together: GRMay, RTake. -/
import Derived.Test.YtaagllbcmgnbnaaGreatDoorMB6
import Derived.Test.YtaagllbcmgnbnaaGreatDoorMB2
/- May a cell be: the page's. -/
namespace Go.Proofs.YtaagllbcmgnbnaaGreatDoor
open Go.RowKit
set_option linter.unusedVariables false
set_option maxRecDepth 100000

theorem may6f {bound : Nat} {c : Cl} (h : ¬ Rise c.2) : mayC 6 bound c = false := by rw [may6, decide_eq_false h, Bool.and_false]
theorem may6t {bound : Nat} {c : Cl} (h : Rise c.2) : mayC 6 bound c = (decide (c.1 = 0) && decide (c.2.length ≤ bound)) := by rw [may6, decide_eq_true h, Bool.and_true]
set_option maxHeartbeats 800000 in
theorem rcell6_any (bound : Nat) (v : Value) (c : Cl) (w : World) (h : CS w v c) (hl : c.2.length ≤ 100000) :
    Calls Tryz.prog 55 #[.int .i64 6, .int .i64 (bound : Int), v] w (BoolR w (mayC 6 bound c)) := by
  obtain ⟨a, cap, rfl, hn⟩ := h
  obtain ⟨o, ho⟩ : ∃ o : Obj, o = .cells #[.int .i64 c.1, .slice a c.2.length cap] 80 := ⟨_, rfl⟩
  have hb0 := (Below.refl w.heap.size w).alloc (Nat.le_refl _) o
  have hB : BlkC (w.alloc o) w.heap.size c.1 (.slice a c.2.length cap) := by rw [ho]; exact BlkC.new w c.1 _
  have hn1 := hn.below hb0
  have HB := hidM hb0
  clear hn hb0
  obtain ⟨n, l⟩ := c
  simp only at *
  obtain ⟨m, hm⟩ : ∃ m, mayC 6 bound (n, l) = m := ⟨_, rfl⟩
  rw [hm]
  have HM := hidM hm
  clear hm
  have last : ∀ (W : World), Drawn (w.alloc o) W → Rise l → Hid (mayC 6 bound (n, l) = (decide (n = 0) && decide (l.length ≤ bound)) ∧ Below w.heap.size w W) := fun W hW hr => ⟨may6t hr, nxt HB.out (hW.below _)⟩
  have LAST := hidM last
  clear last
  obtain ⟨a', cap', e, hs⟩ := hn1
  injection e with e1 e2 e3
  subst e1 e3
  rcases hs with rfl | ⟨b, off, rfl, hb, hat⟩
  · have HL := LAST.out _ (Drawn.refl _) Rise.nil
    clear LAST
    simp only [List.length_nil] at *
    have hle : (0 : Nat) ≤ bound := Nat.zero_le _
    subst ho
    by_cases hz : n = 0
    · subst hz
      go_enter Tryz.func55, Tryz.ntmps55
      go_wp2
      go_loop [7] (fun i => i = .int .i64 1) (fun _ => 0)
      case atStart => rfl
      case round =>
        subst hrel
        go_wp2
        go_ret
        refine ⟨?_, HL.out.2⟩
        rw [← HM.out, HL.out.1]
        simp
    · have hz' : (n == 0) = false := by simpa using hz
      go_enter Tryz.func55, Tryz.ntmps55
      go_wp2
      go_loop [7] (fun i => i = .int .i64 1) (fun _ => 0)
      case atStart => rfl
      case round =>
        subst hrel
        go_wp2
        go_ret
        refine ⟨?_, HL.out.2⟩
        rw [← HM.out, HL.out.1]
        simp [hz]
  · obtain ⟨k0, hk0⟩ : ∃ k0, l.length = k0 := ⟨_, rfl⟩
    rw [hk0] at hl hB ho ⊢
    have HO := hidM ho
    rw [hk0] at LAST
    go_enter Tryz.func55, Tryz.ntmps55
    go_wp2
    rw [← HO.out]
    go_loopw [7] (fun i wr => ∃ k : Nat, k ≤ k0 + 1 ∧ i = .int .i64 ((k : Int) + 1) ∧ Hid (RiseTo l (k + 1)) ∧ Drawn (w.alloc o) wr) (fun i _ => k0 + 2 - (intOf i).toNat)
    case atStart => exact ⟨0, by omega, rfl, riseTo_one l, Drawn.refl _⟩
    case round =>
      obtain ⟨k, hk, rfl, HT, hD⟩ := hrel
      have hB' := hB.below (hD.below _)
      obtain ⟨b0, b1, -, -⟩ := hB'.cells
      by_cases hlt : k + 1 < k0
      · obtain ⟨x, hx⟩ := getSome (l := l) (i := k) (by omega)
        obtain ⟨y, hy⟩ := getSome (l := l) (i := k + 1) (by omega)
        have c0 := hat.below (hD.below _) hb k x hx
        have c1 := hat.below (hD.below _) hb (k + 1) y hy
        have HX := hidM hx
        have HY := hidM hy
        clear hat hx hy ho
        have hk1 : (0 : Int) ≤ (k : Int) + 1 := by omega
        have hkl : (k : Int) + 1 < k0 := by omega
        have e1 : (k : Int) + 1 - 1 = k := by omega
        have e2 : ((k : Int) + 1).toNat = k + 1 := by omega
        by_cases hxy : y ≤ x
        · go_wp2
          go_quiet (fail)
          go_wp2
          go_ret
          refine ⟨?_, nxt HB.out ((hD.step _).below _)⟩
          have : ¬ Rise l := fun h => by have := rise_next h HX.out HY.out; omega
          rw [← HM.out, may6f this]; rfl
        · have hxy' : x < y := by omega
          go_wp2
          go_quiet (fail)
          go_wp2
          go_roundw
          case rel => exact ⟨k + 1, by omega, by go_num, riseTo_step HT.out HX.out HY.out hxy', hD.step _⟩
          case measure => simp [intOf]; omega
      · have hlt' : k0 ≤ k + 1 := by omega
        have hlt2 : (k0 : Int) ≤ (k : Int) + 1 := by omega
        have HL := LAST.out _ hD (riseTo_end HT.out (by omega))
        clear hat ho
        by_cases hz : n = 0
        · subst hz
          by_cases hle : k0 ≤ bound
          · go_wp2
            go_ret
            refine ⟨?_, HL.out.2⟩
            rw [← HM.out, HL.out.1]
            simp [hle]
          · go_wp2
            go_ret
            refine ⟨?_, HL.out.2⟩
            rw [← HM.out, HL.out.1]
            simp [hle]
        · have hz' : (n == 0) = false := by simpa using hz
          go_wp2
          go_ret
          refine ⟨?_, HL.out.2⟩
          rw [← HM.out, HL.out.1]
          simp [hz]
set_option maxHeartbeats 800000 in
theorem rcell_any (agg : Int) (bound : Nat) (v : Value) (c : Cl) (w : World) (h : CS w v c) (hl : c.2.length ≤ 100000) :
    Calls Tryz.prog 55 #[.int .i64 agg, .int .i64 (bound : Int), v] w (BoolR w (mayC agg bound c)) := by
  by_cases h6 : agg = 6
  · subst h6
    exact rcell6_any bound v c w h hl
  obtain ⟨a, cap, rfl, hn⟩ := h
  have HB := hidM ((Below.refl w.heap.size w).alloc (Nat.le_refl _) (.cells #[.int .i64 c.1, .slice a c.2.length cap] 80))
  have h6' : (agg != 6) = true := by simpa using h6
  obtain ⟨n, l⟩ := c
  simp only at *
  by_cases h2 : agg = 2
  · subst h2
    rw [may2]
    simp only
    obtain ⟨k, hk⟩ : ∃ k, l.length = k := ⟨_, rfl⟩
    rw [hk] at HB ⊢
    clear hn hl hk
    by_cases hz : k = 0
    · by_cases h0 : 0 ≤ n
      · by_cases h1 : n ≤ 4611686018427387904
        · rw [decide_eq_true hz, decide_eq_true h0, decide_eq_true h1]
          subst hz
          go_enter Tryz.func55, Tryz.ntmps55
          go_wp2
          go_ret
          exact ⟨by simp, HB.out⟩
        · rw [decide_eq_true hz, decide_eq_true h0, decide_eq_false h1]
          subst hz
          go_enter Tryz.func55, Tryz.ntmps55
          go_wp2
          go_ret
          exact ⟨by simp, HB.out⟩
      · rw [decide_eq_true hz, decide_eq_false h0]
        subst hz
        go_enter Tryz.func55, Tryz.ntmps55
        go_wp2
        go_ret
        exact ⟨by simp, HB.out⟩
    · have hz' : ((k : Int) == 0) = false := by simp; omega
      rw [decide_eq_false hz]
      go_enter Tryz.func55, Tryz.ntmps55
      go_wp2
      go_ret
      exact ⟨by simp, HB.out⟩
  · have h2' : (agg != 2) = true := by simpa using h2
    rw [mayN h6 h2]
    simp only
    obtain ⟨k, hk⟩ : ∃ k, l.length = k := ⟨_, rfl⟩
    rw [hk] at HB ⊢
    clear hn hl hk
    by_cases hz : k = 0
    · rw [decide_eq_true hz]
      subst hz
      go_enter Tryz.func55, Tryz.ntmps55
      go_wp2
      go_ret
      exact ⟨by simp, HB.out⟩
    · have hz' : ((k : Int) == 0) = false := by simp; omega
      rw [decide_eq_false hz]
      go_enter Tryz.func55, Tryz.ntmps55
      go_wp2
      go_ret
      exact ⟨by simp, HB.out⟩
end Go.Proofs.YtaagllbcmgnbnaaGreatDoor
/- The page's own Take: what it answers, for every string. -/
namespace Go.Proofs.YtaagllbcmgnbnaaGreatDoor
open Go.RowKit
set_option linter.unusedVariables false
set_option maxRecDepth 100000

/-- .. where the byte is taken modulo 128 as it stands. -/
theorem or_step' (k : Nat) (x c : Int) (hx0 : 0 ≤ x) (hx : x < 2 ^ (7 * k)) (hc0 : 0 ≤ c) (hc : c < 256) (hk : k ≤ 8 ∨ k = 9 ∧ c ≤ 1) :
    bits .or .u64 x (IntKind.u64.wrap (c % 128 * 2 ^ (7 * k))) = x + c % 128 * 2 ^ (7 * k) := by
  have h := (or_step k x c hx0 hx hc0 hc hk).1
  rwa [andNot128 c hc0 hc, IntWalk.u64_in (c % 128) (by omega)] at h

set_option maxHeartbeats 400000 in
set_option maxRecDepth 100000 in
theorem rtake_any (s : ByteArray) (w : World) (hs : s.size ≤ maxLen) :
    Calls Tryz.prog 168 #[.string s] w fun e w' => e = .returned (.tuple #[.int .i64 (takeOf s).1, .int .i64 (takeOf s).2.1, .int .i64 (takeOf s).2.2]) ∧ w' = w := by
  unfold maxLen at hs
  go_enter Tryz.func168, Tryz.ntmps168
  go_wp2
  go_loop [5, 6] (fun u i => ∃ (k : Nat) (x : Int), k ≤ s.size ∧ k ≤ 9 ∧ i = .int .i64 k ∧ u = .int .u64 x ∧ 0 ≤ x ∧ Hid (x < 2 ^ (7 * k)) ∧ Hid (takeOf s = takeL (s.data.toList.drop k) k x)) (fun _ i => s.size - (intOf i).toNat)
  case atStart => exact ⟨0, 0, by omega, by omega, rfl, rfl, by omega, by unfold Hid; decide, rfl⟩
  case round =>
    obtain ⟨k, x, hk, hk9, rfl, rfl, hx0, HX, HT⟩ := hrel
    by_cases hlt : k < s.size
    · have hc1 : s[k].toNat < 256 := s[k].toNat_lt
      have hd := drop_byte s k hlt
      by_cases h9 : k = 9 ∧ 1 < s[k].toNat
      · obtain ⟨h9, hb⟩ := h9
        have HE : Hid (takeOf s = (0, 0, 7)) := by rw [HT.out, hd]; exact takeL_nine _ _ _ _ h9 hb
        have h9' : 9 ≤ k := by omega
        clear h9 hd HT HX
        go_wp2
        go_ret3
        exact ⟨ret3 HE.out rfl rfl rfl, rfl⟩
      · obtain ⟨_, hl0, hl1, hl2⟩ := or_step k x s[k].toNat hx0 HX.out (by omega) (by omega) (by omega)
        have ho := or_step' k x s[k].toNat hx0 HX.out (by omega) (by omega) (by omega)
        by_cases hb : 128 ≤ s[k].toNat
        · have HE : Hid (takeOf s = takeL (s.data.toList.drop (k + 1)) (k + 1) (x + (s[k].toNat : Int) % 128 * 2 ^ (7 * k))) := by rw [HT.out, hd]; exact takeL_more _ _ _ _ (by omega) hb
          have HX2 : Hid (x + (s[k].toNat : Int) % 128 * 2 ^ (7 * k) < 2 ^ (7 * (k + 1))) := hl2 (by omega)
          have h8 : k ≤ 8 := by omega
          have HO : Hid (_ = _) := ho
          clear ho hd HT HX hl2 hl1 h9
          go_wp2
          go_round
          case rel => exact ⟨k + 1, _, by omega, by omega, by go_num, by rw [HO.out], hl0, HX2, HE⟩
          case measure => simp [intOf]; omega
        · have hb' : s[k].toNat < 128 := by omega
          by_cases hz : s[k].toNat = 0 ∧ 0 < k
          · obtain ⟨hz, hk0⟩ := hz
            have HE : Hid (takeOf s = (0, 0, 7)) := by rw [HT.out, hd]; exact takeL_zero _ _ _ _ hk0 hz
            have hz' : s[k].toNat ≤ 0 := by omega
            have hk0' : (0 : Int) < k := by omega
            clear ho hd HT HX hl2 hl1 h9 hz hb
            go_wp2
            all_goals
              go_ret3
              exact ⟨ret3 HE.out rfl rfl rfl, rfl⟩
          · have HE : Hid (takeOf s = (zag (x + (s[k].toNat : Int) % 128 * 2 ^ (7 * k)), (k : Int) + 1, 0)) := by rw [HT.out, hd]; exact takeL_end _ _ _ _ (by omega) hb' (by omega)
            have ho9 : k = 9 → bits .or .u64 x ((s[k].toNat : Int) % 128 * 9223372036854775808) = x + (s[k].toNat : Int) % 128 * 2 ^ (7 * k) := by
              intro h9e
              rw [← ho, show (2 : Int) ^ (7 * k) = 9223372036854775808 by rw [h9e]; rfl, IntWalk.u64_in _ (by omega)]
            generalize x + (s[k].toNat : Int) % 128 * 2 ^ (7 * k) = y at *
            clear hd HT HX hl2 hb
            by_cases h9e : k = 9
            · have ho := ho9 h9e
              have hq : 9 ≤ k := by omega
              have hc : (s[k].toNat : Int) ≤ 1 := by omega
              have hz0 : ((s[k].toNat : Int) == 0) = false := by simp; omega
              clear h9 hz h9e ho9
              by_cases h2 : y % 2 = 1
              · have ht : (bits .and .u64 y 1 == 1) = true := by rw [and1 y hl0 hl1, h2]; rfl
                have H : Hid (bits .xor .i64 (-1) (y / 2) = zag y) := by unfold Hid zag; rw [if_pos h2, not_i64 _ (by omega) (by omega)]
                clear h2
                go_wp2
                go_ret3
                exact ⟨ret3 HE.out H.out (by omega) rfl, rfl⟩
              · have ht : (bits .and .u64 y 1 == 1) = false := by rw [and1 y hl0 hl1]; simp; omega
                have H : Hid (y / 2 = zag y) := by unfold Hid zag; rw [if_neg h2]
                clear h2
                go_wp2
                go_ret3
                exact ⟨ret3 HE.out H.out (by omega) rfl, rfl⟩
            · have hq : ((k : Int) == 9) = false := by simp; omega
              by_cases hz1 : s[k].toNat = 0
              · have hz0 : ((s[k].toNat : Int) == 0) = true := by simp; omega
                have hk0 : (k : Int) ≤ 0 := by omega
                clear h9 hz h9e hz1 ho9
                by_cases h2 : y % 2 = 1
                · have ht : (bits .and .u64 y 1 == 1) = true := by rw [and1 y hl0 hl1, h2]; rfl
                  have H : Hid (bits .xor .i64 (-1) (y / 2) = zag y) := by unfold Hid zag; rw [if_pos h2, not_i64 _ (by omega) (by omega)]
                  clear h2
                  go_wp2
                  go_ret3
                  exact ⟨ret3 HE.out H.out (by omega) rfl, rfl⟩
                · have ht : (bits .and .u64 y 1 == 1) = false := by rw [and1 y hl0 hl1]; simp; omega
                  have H : Hid (y / 2 = zag y) := by unfold Hid zag; rw [if_neg h2]
                  clear h2
                  go_wp2
                  go_ret3
                  exact ⟨ret3 HE.out H.out (by omega) rfl, rfl⟩
              · have hz0 : ((s[k].toNat : Int) == 0) = false := by simp; omega
                clear h9 hz h9e hz1 ho9
                by_cases h2 : y % 2 = 1
                · have ht : (bits .and .u64 y 1 == 1) = true := by rw [and1 y hl0 hl1, h2]; rfl
                  have H : Hid (bits .xor .i64 (-1) (y / 2) = zag y) := by unfold Hid zag; rw [if_pos h2, not_i64 _ (by omega) (by omega)]
                  clear h2
                  go_wp2
                  go_ret3
                  exact ⟨ret3 HE.out H.out rfl rfl, rfl⟩
                · have ht : (bits .and .u64 y 1 == 1) = false := by rw [and1 y hl0 hl1]; simp; omega
                  have H : Hid (y / 2 = zag y) := by unfold Hid zag; rw [if_neg h2]
                  clear h2
                  go_wp2
                  go_ret3
                  exact ⟨ret3 HE.out H.out rfl rfl, rfl⟩
    · have HE : Hid (takeOf s = (0, 0, 6)) := by rw [HT.out, drop_end s k (by omega)]; exact takeL_nil _ _
      clear HT HX
      go_wp2
      go_ret3
      exact ⟨ret3 HE.out rfl rfl rfl, rfl⟩
end Go.Proofs.YtaagllbcmgnbnaaGreatDoor
