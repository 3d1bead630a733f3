/- The page's own: split. -/
import Derived.Test.YtjegnffhegiajaaLRWord
import Derived.Test.YtjegnffhegiajaaLRNum
namespace Go.Proofs.Ytjegnffhegiajaa
open Go.RowKit
set_option linter.unusedVariables false
set_option maxRecDepth 100000

theorem Try.infoStr : (Try.prog.info? 9).map (fun i => (i.zero, i.size, i.bytes)) = some (some (.string ⟨#[]⟩), 1, 16) := by kernel_rfl
theorem one_strS (s : ByteArray) : ∀ u ∈ [Value.string s], u.oneCell' = true := by intro u hu; simp at hu; subst hu; rfl
theorem ext_one (s : ByteArray) (k : Nat) (h : k < s.size) : s.extract k (k + 1) = ba [s[k]] := by
  apply ba_ext
  show L _ = L _
  rw [L_ext, L_ba]
  have := drop_byte s k h
  rw [show (L s).drop k = s[k] :: (L s).drop (k + 1) from this]
  simp
theorem blank_of (c : UInt8) : blankB c = (((c.toNat : Int) == 32) || ((c.toNat : Int) == 10)) := by
  have h1 : (c == 32) = ((c.toNat : Int) == 32) := by
    by_cases h : c = 32
    · subst h; rfl
    · rw [beq_eq_false_iff_ne.2 h, beq_eq_false_iff_ne.2]
      intro e
      exact h ((nat_byte c 32 (by omega)).2 (by omega))
  have h2 : (c == 10) = ((c.toNat : Int) == 10) := by
    by_cases h : c = 10
    · subst h; rfl
    · rw [beq_eq_false_iff_ne.2 h, beq_eq_false_iff_ne.2]
      intro e
      exact h ((nat_byte c 10 (by omega)).2 (by omega))
  unfold blankB
  rw [h1, h2]
/-- Where split has come to. -/
def SplL (s : ByteArray) (k : Nat) (done : List (List UInt8)) (acc : List UInt8) : Prop :=
  acc.length ≤ k ∧ done.length ≤ k ∧ ((k ≤ s.size ∧ splitG [] (L s) = done ++ splitG acc ((L s).drop k)) ∨ (k = s.size + 1 ∧ splitG [] (L s) = done))
theorem spl_end {s : ByteArray} {done : List (List UInt8)} {acc : List UInt8} (h : SplL s s.size done acc) : SplL s (s.size + 1) (if acc = [] then done else done ++ [acc]) [] := by
  obtain ⟨h1, h2, h3⟩ := h
  rcases h3 with ⟨_, h3⟩ | ⟨h3, _⟩
  · rw [List.drop_of_length_le (by rw [L_len]; exact Nat.le_refl _)] at h3
    refine ⟨by simp, ?_, .inr ⟨rfl, ?_⟩⟩
    · split
      · omega
      · simp; exact h2
    · rw [h3]
      simp only [splitG]
      split <;> simp
  · omega
theorem spl_blank {s : ByteArray} {k : Nat} {done : List (List UInt8)} {acc : List UInt8} (h : SplL s k done acc) (hk : k < s.size) (hb : blankB s[k] = true) : SplL s (k + 1) (if acc = [] then done else done ++ [acc]) [] := by
  obtain ⟨h1, h2, h3⟩ := h
  rcases h3 with ⟨_, h3⟩ | ⟨h3, _⟩
  · rw [show (L s).drop k = s[k] :: (L s).drop (k + 1) from drop_byte s k hk, splitG, if_pos hb] at h3
    refine ⟨by simp, ?_, .inl ⟨by omega, ?_⟩⟩
    · split
      · omega
      · simp; exact h2
    · rw [h3]
      split <;> simp
  · omega
theorem spl_more {s : ByteArray} {k : Nat} {done : List (List UInt8)} {acc : List UInt8} (h : SplL s k done acc) (hk : k < s.size) (hb : blankB s[k] = false) : SplL s (k + 1) done (acc ++ [s[k]]) := by
  obtain ⟨h1, h2, h3⟩ := h
  rcases h3 with ⟨_, h3⟩ | ⟨h3, _⟩
  · rw [show (L s).drop k = s[k] :: (L s).drop (k + 1) from drop_byte s k hk, splitG, if_neg (by rw [hb]; simp)] at h3
    exact ⟨by simp; exact h1, by omega, .inl ⟨by omega, h3⟩⟩
  · omega
theorem spl_done {s : ByteArray} {k : Nat} {done : List (List UInt8)} {acc : List UInt8} (h : SplL s k done acc) (hk : s.size < k) : splitG [] (L s) = done := by
  obtain ⟨_, _, ⟨h3, _⟩ | ⟨_, h3⟩⟩ := h
  · omega
  · exact h3
/-- Words gathered. -/
structure Sp (B : Nat) (w : World) (v : Value) (wl : List ByteArray) (wr : World) : Prop where
  own : OwnS wr B v wl
  bel : Below B w wr
  size : B ≤ wr.heap.size
theorem Sp.app {B : Nat} {w wr w2 : World} {v v2 : Value} {wl : List ByteArray} {x : ByteArray} (h : Sp B w v wl wr)
    (ho : w2.ownsRow B 9 1 v2 (wl.length + 1) (flatS wl ++ [.string x])) (hg : wr.grownBy w2 v.ownBlock) : Sp B w v2 (wl ++ [x]) w2 :=
  ⟨OwnS.snoc ho rfl, h.bel.grown hg h.size (own_rowS h.own), Nat.le_trans h.size hg.size⟩
theorem Sp.box {B : Nat} {w wr : World} {v : Value} {wl : List ByteArray} (h : Sp B w v wl wr) (o : Obj) : Sp B w v wl (wr.alloc o) :=
  ⟨OwnS.below h.own ((Below.refl _ _).alloc (Nat.le_refl _) _), h.bel.alloc h.size _, by simp; have := h.size; omega⟩
set_option maxHeartbeats 800000 in
theorem split_any (s : ByteArray) (w : World) (hs : s.size ≤ 512) :
    Calls Try.prog 18 #[.string s] w fun e w' => ∃ v, e = .returned v ∧ OwnS w' w.heap.size v (splitB s) ∧ Below w.heap.size w w' := by
  obtain ⟨i9, hi, hz0, hz1, hz2⟩ := info_parts Try.infoStr
  have hsi : (s.size : Int) ≤ 512 := by omega
  go_enter Try.func18, Try.ntmps18
  go_wp2
  go_loopw [3, 4, 5] (fun v x i wr => ∃ (k : Nat) (done : List (List UInt8)) (acc : List UInt8), k ≤ s.size + 1 ∧ i = .int .i64 k ∧ x = .string (ba acc) ∧ Hid (SplL s k done acc) ∧ Hid (Sp w.heap.size w v (done.map ba) wr)) (fun _ _ i _ => s.size + 1 - (intOf i).toNat)
  case atStart => exact ⟨0, [], [], by omega, rfl, rfl, ⟨by simp, by simp, .inl ⟨by omega, by simp⟩⟩, ⟨World.ownsRow_nil _ _ _ _, Below.refl _ _, Nat.le_refl _⟩⟩
  case round =>
    obtain ⟨k, done, acc, hk, rfl, rfl, HS, HP⟩ := hrel
    obtain ⟨a, cap, hv⟩ := OwnS.shape HP.out.own
    rw [List.length_map] at hv
    subst hv
    have hdl := HS.out.2.1
    have hsz := HP.out.size
    have hal := HS.out.1
    by_cases hend : s.size < k
    · have hendi : (s.size : Int) < (k : Int) := by omega
      have HE : Hid (OwnS wr w.heap.size (.slice a done.length cap) (splitB s)) := by
        unfold Hid splitB
        rw [spl_done HS.out hend]
        exact HP.out.own
      go_wp2
      go_ret
      exact ⟨_, rfl, HE.out, HP.out.bel⟩
    have hki : (k : Int) ≤ (s.size : Int) := by omega
    by_cases hblank : k = s.size ∨ ∃ h : k < s.size, blankB s[k] = true
    · have HS2 : Hid (SplL s (k + 1) (if acc = [] then done else done ++ [acc]) []) := by
        rcases hblank with rfl | ⟨h, hb⟩
        · exact spl_end HS.out
        · exact spl_blank HS.out h hb
      have hway : ((k : Int) == (s.size : Int)) = true ∨ (∃ h : k < s.size, ((k : Int) == (s.size : Int)) = false ∧ ((s[k].toNat : Int) == 32) = true) ∨ (∃ h : k < s.size, ((k : Int) == (s.size : Int)) = false ∧ ((s[k].toNat : Int) == 32) = false ∧ ((s[k].toNat : Int) == 10) = true) := by
        rcases hblank with rfl | ⟨h, hb⟩
        · exact .inl (beq_self_eq_true _)
        · have hne : ((k : Int) == (s.size : Int)) = false := beq_eq_false_iff_ne.2 (by omega)
          rw [blank_of] at hb
          cases h32 : ((s[k].toNat : Int) == 32) with
          | true => exact .inr (.inl ⟨h, hne, h32⟩)
          | false =>
            rw [h32] at hb
            exact .inr (.inr ⟨h, hne, h32, by simpa using hb⟩)
      clear hblank HS
      by_cases hacc : acc = []
      · rw [if_pos hacc] at HS2
        subst hacc
        rcases hway with h1 | ⟨hlt, h1, h2⟩ | ⟨hlt, h1, h2, h3⟩
        all_goals
          go_wp2
          go_roundw
          case rel => exact ⟨k + 1, done, [], by omega, by go_num, rfl, HS2, HP⟩
          case measure => simp [intOf]; omega
      · rw [if_neg hacc] at HS2
        have hne : acc.isEmpty = false := by simpa using hacc
        have HP1 := hidD (HP.out.box (.cells #[.string (ba acc)] 9))
        have hl1 : done.length + 1 ≤ 600 := by omega
        clear hacc
        rcases hway with h1 | ⟨hlt, h1, h2⟩ | ⟨hlt, h1, h2, h3⟩
        all_goals
          go_wp2_with (at_builtin; refine wpList_append_own_at _ rfl _ _ 22 rfl w.heap.size 9 i9 _ 1 16 Try.underlying22 hi hz0 hz1 hz2 rfl (by decide) (.slice a done.length cap) done.length (flatS (done.map ba)) rfl ?caO ⟨wr.heap.size, 0, none⟩ 1 1 [.string (ba acc)] rfl rfl (cell_one_new _ _ _) (one_strS _) ?ca3 ?ca4 ?ca5 ?_)
          case caO => have := HP1.out.own; unfold OwnS at this; rw [List.length_map] at this; exact this
          case ca3 => unfold maxLen; omega
          case ca4 => omega
          case ca5 => simp; omega
          intro v2 w2 hown2 hgrow2 _ hat2
          have HP2 : Hid (Sp w.heap.size w v2 ((done ++ [acc]).map ba) w2) := by
            have := HP1.out.app (v2 := v2) (x := ba acc) (by rw [List.length_map]; simpa [flatS] using hown2) hgrow2
            simpa [Hid] using this
          clear hown2 hgrow2 hat2
          go_wp2
          go_roundw
          case rel => exact ⟨k + 1, done ++ [acc], [], by omega, by go_num, rfl, HS2, HP2⟩
          case measure => simp [intOf]; omega
    · have hlt : k < s.size := by
        by_cases h : k = s.size
        · exact absurd (.inl h) hblank
        · omega
      have hb : blankB s[k] = false := by
        cases h : blankB s[k] with
        | false => rfl
        | true => exact absurd (.inr ⟨hlt, h⟩) hblank
      have HS2 := hidD (spl_more HS.out hlt hb)
      rw [blank_of, Bool.or_eq_false_iff] at hb
      obtain ⟨h32, h10⟩ := hb
      have hne : ((k : Int) == (s.size : Int)) = false := beq_eq_false_iff_ne.2 (by omega)
      have hex := ext_one s k hlt
      have hk1 : (k : Int) + 1 ≤ (s.size : Int) := by omega
      have hk2 : (k : Int) ≤ (k : Int) + 1 := by omega
      have hk3 : (0 : Int) ≤ (k : Int) := by omega
      have hadd := add_ba acc [s[k]] (by simp; omega)
      clear hblank HS
      go_wp2
      go_roundw
      case rel => exact ⟨k + 1, done, acc ++ [s[k]], by omega, by go_num, rfl, HS2, HP⟩
      case measure => simp [intOf]; omega
end Go.Proofs.Ytjegnffhegiajaa
