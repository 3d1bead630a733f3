/- The page's own: number. -/
import Derived.Test.YtjegnffhegiajaaLRWord
namespace Go.Proofs.Ytjegnffhegiajaa
open Go.RowKit Go.Lib
set_option linter.unusedVariables false
set_option maxRecDepth 100000

theorem take_byte (s : ByteArray) (k : Nat) (h : k < s.size) : (L s).take (k + 1) = (L s).take k ++ [s[k]] := by
  rw [List.take_add_one]
  have : (L s)[k]? = some s[k] := by
    have e := drop_byte s k h
    have : (s.data.toList.drop k)[0]? = some s[k] := by rw [e]; rfl
    rw [List.getElem?_drop] at this
    simpa using this
  rw [this]
  rfl
theorem decFrom_app (l r : List UInt8) : ∀ acc, decFrom acc (l ++ r) = (decFrom acc l).bind fun n => decFrom n r := by
  induction l with
  | nil => intro acc; rfl
  | cons b l ih =>
    intro acc
    simp only [List.cons_append, decFrom]
    cases digitVal b with
    | none => rfl
    | some d => exact ih _
/-- One digit more. -/
theorem dec_step (s : ByteArray) (k x : Nat) (h : k < s.size) (hd : decFrom 0 ((L s).take k) = some x) (h0 : 48 ≤ s[k].toNat) (h1 : s[k].toNat ≤ 57) : decFrom 0 ((L s).take (k + 1)) = some (x * 10 + (s[k].toNat - 48)) := by
  rw [take_byte s k h, decFrom_app, hd, Option.bind_some]
  simp only [decFrom, digitVal]
  rw [if_pos ⟨h0, h1⟩]
theorem dec_bad (s : ByteArray) (k : Nat) (h : k < s.size) (hb : s[k].toNat < 48 ∨ 57 < s[k].toNat) : decFrom 0 (L s) = none := by
  have e : L s = (L s).take k ++ (s[k] :: (L s).drop (k + 1)) := by rw [← drop_byte s k h]; exact (List.take_append_drop k _).symm
  rw [e, decFrom_app]
  cases decFrom 0 ((L s).take k) with
  | none => rfl
  | some n =>
    simp only [Option.bind_some, decFrom, digitVal]
    rw [if_neg (by omega)]
theorem dec_all (s : ByteArray) (k x : Nat) (h : s.size ≤ k) (hd : decFrom 0 ((L s).take k) = some x) : decFrom 0 (L s) = some x := by
  rw [List.take_of_length_le (by rw [L_len]; exact h)] at hd
  exact hd
theorem head_byte (s : ByteArray) (h : 0 < s.size) : (L s).head? = some s[0] := by
  have := drop_byte s 0 h
  simp only [List.drop_zero] at this
  show (s.data.toList).head? = _
  rw [this]
  rfl
theorem nat_byte (c : UInt8) (n : Nat) (hn : n < 256) : (c = UInt8.ofNat n) ↔ c.toNat = n := by
  constructor
  · rintro rfl; simp; omega
  · intro h; rw [← h]; simp
theorem empty_size {s : ByteArray} (h : s.toList.isEmpty = true) : s.size = 0 := by
  rw [ByteArray.toList_eq, List.isEmpty_iff] at h
  rw [← L_len]
  exact congrArg List.length h
theorem not_empty {s : ByteArray} (h : s.size ≠ 0) : s.toList.isEmpty = false := by
  cases hb : s.toList.isEmpty with
  | false => rfl
  | true => exact absurd (empty_size hb) h
/-- What number tells. -/
def NumR (r : Option Int) (e : Ending) : Prop := e = .returned (.tuple #[.int .i64 (r.getD 0), .bool r.isSome])
theorem numR_none {r : Option Int} (h : r = none) : NumR r (.returned (.tuple #[.int .i64 0, .bool false])) := by subst h; rfl
theorem numR_some {r : Option Int} {n : Int} (h : r = some n) : NumR r (.returned (.tuple #[.int .i64 n, .bool true])) := by subst h; rfl
theorem pow_step (k x : Nat) (h : x < 10 ^ k) (d : Nat) (hd : d < 10) : x * 10 + d < 10 ^ (k + 1) := by rw [Nat.pow_succ]; omega
theorem pow_small (k x : Nat) (h : x < 10 ^ k) (hk : k ≤ 18) : x < 1000000000000000000 :=
  Nat.lt_of_lt_of_le h (Nat.pow_le_pow_right (by omega) hk)
/-- The rounds of number. -/
def NumL (s : ByteArray) (k x : Nat) : Prop := decFrom 0 ((L s).take k) = some x ∧ x < 10 ^ k
theorem neg_back (x : Int) (h0 : 0 ≤ x) (h1 : x ≤ 9223372036854775808) : wrap64 (IntKind.u64.wrap (bits .xor .u64 IntKind.u64.max x + 1)) = -x := by
  rw [not_u64 _ (by omega) (by omega), IntKind.wrap_u64]
  unfold wrap64
  omega
set_option maxHeartbeats 800000 in
theorem number_pos (s : ByteArray) (w : World) (hl : s.size ≤ 600) (h45 : ∀ h : 0 < s.size, s[0].toNat ≠ 45) :
    Calls Try.prog 24 #[.string s] w fun e w' => NumR (refPos (L s)) e ∧ w' = w := by
  by_cases h0 : s.size = 0
  · have hs : s = ⟨#[]⟩ := by apply ba_ext; show L s = []; exact List.length_eq_zero_iff.1 (by rw [L_len]; exact h0)
    subst hs
    have HR : Hid (NumR (refPos (L ⟨#[]⟩)) _) := numR_none (by unfold refPos; rw [if_pos (.inl rfl)])
    go_enter Try.func24, Try.ntmps24
    go_wp2
    go_ret2
    exact ⟨HR.out, rfl⟩
  have hp : 0 < s.size := by omega
  have hpi : (0 : Int) < (s.size : Int) := by omega
  have h45' := h45 hp
  have hb45 : ((s[0].toNat : Int) == 45) = false := beq_eq_false_iff_ne.2 (by omega)
  have hne := not_empty h0
  by_cases h19 : 19 < s.size
  · have HR : Hid (NumR (refPos (L s)) _) := numR_none (by unfold refPos; rw [if_pos (.inr (.inl (by rw [L_len]; exact h19)))])
    have h19i : (19 : Int) < (s.size : Int) := by omega
    clear h45
    go_enter Try.func24, Try.ntmps24
    go_wp2
    go_ret2
    exact ⟨HR.out, rfl⟩
  have h19i : (s.size : Int) ≤ 19 := by omega
  by_cases h48 : s[0].toNat = 48 ∧ 1 < s.size
  · obtain ⟨h48, h1⟩ := h48
    have HR : Hid (NumR (refPos (L s)) _) := numR_none (by unfold refPos; rw [if_pos (.inr (.inr ⟨by rw [head_byte s hp]; congr 1; exact (nat_byte _ 48 (by omega)).2 h48, by rw [L_len]; exact h1⟩))])
    have hb48 : ((s[0].toNat : Int) == 48) = true := beq_iff_eq.2 (by omega)
    have h1i : (1 : Int) < (s.size : Int) := by omega
    clear h45
    go_enter Try.func24, Try.ntmps24
    go_wp2
    go_ret2
    exact ⟨HR.out, rfl⟩
  have hR : refPos (L s) = (decFrom 0 (L s)).bind fun u => if 9223372036854775808 ≤ u then none else some (u : Int) := by
    unfold refPos
    rw [if_neg]
    rintro (h | h | ⟨h, h'⟩)
    · exact h0 (by rw [← L_len, h]; rfl)
    · rw [L_len] at h; omega
    · rw [head_byte s hp] at h
      rw [L_len] at h'
      exact h48 ⟨(nat_byte _ 48 (by omega)).1 (Option.some.inj h), h'⟩
  have HR := hidD hR
  clear hR h45
  have hway : ((s[0].toNat : Int) == 48) = false ∨ (((s[0].toNat : Int) == 48) = true ∧ (s.size : Int) ≤ 1) := by
    by_cases h : s[0].toNat = 48
    · exact .inr ⟨beq_iff_eq.2 (by omega), by omega⟩
    · exact .inl (beq_eq_false_iff_ne.2 (by omega))
  rcases hway with hb48 | ⟨hb48, h1i⟩
  all_goals
    go_enter Try.func24, Try.ntmps24
    go_wp2
    go_loop [6, 7] (fun u i => ∃ (k : Nat) (x : Int), k ≤ s.size ∧ i = .int .i64 k ∧ u = .int .u64 x ∧ 0 ≤ x ∧ Hid (NumL s k x.toNat)) (fun _ i => s.size - (intOf i).toNat)
    case atStart => exact ⟨0, 0, by omega, rfl, rfl, by omega, ⟨by simp [decFrom], by decide⟩⟩
    case round =>
      obtain ⟨k, x, hk, rfl, rfl, hx0, HX⟩ := hrel
      by_cases hlt : k < s.size
      · have hlti : (k : Int) < (s.size : Int) := by omega
        have hxs : x < 1000000000000000000 := by have := pow_small k x.toNat HX.out.2 (by omega); omega
        have hc1 : s[k].toNat < 256 := s[k].toNat_lt
        by_cases hlo : s[k].toNat < 48
        · have HF : Hid (NumR (refPos (L s)) _) := numR_none (by rw [HR.out, dec_bad s k hlt (.inl hlo)]; rfl)
          have hloi : (s[k].toNat : Int) < 48 := by omega
          clear HX
          go_wp2
          go_ret2
          exact ⟨HF.out, rfl⟩
        have hloi : (48 : Int) ≤ (s[k].toNat : Int) := by omega
        by_cases hhi : 57 < s[k].toNat
        · have HF : Hid (NumR (refPos (L s)) _) := numR_none (by rw [HR.out, dec_bad s k hlt (.inr hhi)]; rfl)
          have hhii : (57 : Int) < (s[k].toNat : Int) := by omega
          clear HX
          go_wp2
          go_ret2
          exact ⟨HF.out, rfl⟩
        have hhii : (s[k].toNat : Int) ≤ 57 := by omega
        have HX2 : Hid (NumL s (k + 1) (x * 10 + ((s[k].toNat : Int) - 48)).toNat) := by
          rw [show (x * 10 + ((s[k].toNat : Int) - 48)).toNat = x.toNat * 10 + (s[k].toNat - 48) by omega]
          exact ⟨dec_step s k x.toNat hlt HX.out.1 (by omega) (by omega), pow_step k x.toNat HX.out.2 _ (by omega)⟩
        clear HX
        go_wp2
        go_round
        case rel => exact ⟨k + 1, _, by omega, by go_num, rfl, by omega, HX2⟩
        case measure => simp [intOf]; omega
      · have hlt' : s.size ≤ k := by omega
        have hd := dec_all s k x.toNat hlt' HX.out.1
        have hks : k = s.size := by omega
        by_cases hbig : 9223372036854775808 ≤ x.toNat
        · have HF : Hid (NumR (refPos (L s)) _) := numR_none (by rw [HR.out, hd, Option.bind_some, if_pos hbig])
          have hbi : (9223372036854775808 : Int) ≤ x := by omega
          clear hbig hd HX
          go_wp2
          go_ret2
          exact ⟨HF.out, rfl⟩
        · have HF : Hid (NumR (refPos (L s)) _) := numR_some (n := x) (by rw [HR.out, hd, Option.bind_some, if_neg hbig, Int.toNat_of_nonneg hx0])
          have hbi : (x : Int) < 9223372036854775808 := by omega
          clear hbig hd HX
          go_wp2
          go_ret2
          exact ⟨HF.out, rfl⟩
set_option maxHeartbeats 800000 in
theorem number_neg (s0 s : ByteArray) (w : World) (hl : s.size ≤ 600) (hs0 : s0.size = s.size + 1) (h45 : ∀ h : 0 < s0.size, s0[0].toNat = 45) (hx : s0.extract 1 (s.size + 1) = s) :
    Calls Try.prog 24 #[.string s0] w fun e w' => NumR (refNeg (L s)) e ∧ w' = w := by
  have hp0 : 0 < s0.size := by omega
  have hpi0 : (0 : Int) < (s0.size : Int) := by omega
  have hb45 : ((s0[0].toNat : Int) == 45) = true := beq_iff_eq.2 (by have := h45 hp0; omega)
  clear h45
  by_cases h0 : s.size = 0
  · have hs : s = ⟨#[]⟩ := by apply ba_ext; show L s = []; exact List.length_eq_zero_iff.1 (by rw [L_len]; exact h0)
    subst hs
    have HR : Hid (NumR (refNeg (L ⟨#[]⟩)) _) := numR_none (by unfold refNeg; rw [if_pos (.inl rfl)])
    go_enter Try.func24, Try.ntmps24
    go_wp2
    go_ret2
    exact ⟨HR.out, rfl⟩
  have hp : 0 < s.size := by omega
  have hpi : (0 : Int) < (s.size : Int) := by omega
  have hne := not_empty h0
  by_cases h19 : 19 < s.size
  · have HR : Hid (NumR (refNeg (L s)) _) := numR_none (by unfold refNeg; rw [if_pos (.inr (.inl (by rw [L_len]; exact h19)))])
    have h19i : (19 : Int) < (s.size : Int) := by omega
    go_enter Try.func24, Try.ntmps24
    go_wp2
    go_ret2
    exact ⟨HR.out, rfl⟩
  have h19i : (s.size : Int) ≤ 19 := by omega
  by_cases h48 : s[0].toNat = 48
  · have HR : Hid (NumR (refNeg (L s)) _) := numR_none (by unfold refNeg; rw [if_pos (.inr (.inr (by rw [head_byte s hp]; congr 1; exact (nat_byte _ 48 (by omega)).2 h48)))])
    have hb48 : ((s[0].toNat : Int) == 48) = true := beq_iff_eq.2 (by omega)
    go_enter Try.func24, Try.ntmps24
    go_wp2
    all_goals
      go_ret2
      exact ⟨HR.out, rfl⟩
  have hR : refNeg (L s) = (decFrom 0 (L s)).bind fun u => if 9223372036854775808 < u then none else some (-(u : Int)) := by
    unfold refNeg
    rw [if_neg]
    rintro (h | h | h)
    · exact h0 (by rw [← L_len, h]; rfl)
    · rw [L_len] at h; omega
    · rw [head_byte s hp] at h
      exact h48 ((nat_byte _ 48 (by omega)).1 (Option.some.inj h))
  have HR := hidD hR
  clear hR
  have hb48 : ((s[0].toNat : Int) == 48) = false := beq_eq_false_iff_ne.2 (by omega)
  refine id ?_
  all_goals
    go_enter Try.func24, Try.ntmps24
    go_wp2
    go_loop [6, 7] (fun u i => ∃ (k : Nat) (x : Int), k ≤ s.size ∧ i = .int .i64 k ∧ u = .int .u64 x ∧ 0 ≤ x ∧ Hid (NumL s k x.toNat)) (fun _ i => s.size - (intOf i).toNat)
    case atStart => exact ⟨0, 0, by omega, rfl, rfl, by omega, ⟨by simp [decFrom], by decide⟩⟩
    case round =>
      obtain ⟨k, x, hk, rfl, rfl, hx0, HX⟩ := hrel
      by_cases hlt : k < s.size
      · have hlti : (k : Int) < (s.size : Int) := by omega
        have hxs : x < 1000000000000000000 := by have := pow_small k x.toNat HX.out.2 (by omega); omega
        have hc1 : s[k].toNat < 256 := s[k].toNat_lt
        by_cases hlo : s[k].toNat < 48
        · have HF : Hid (NumR (refNeg (L s)) _) := numR_none (by rw [HR.out, dec_bad s k hlt (.inl hlo)]; rfl)
          have hloi : (s[k].toNat : Int) < 48 := by omega
          clear HX
          go_wp2
          go_ret2
          exact ⟨HF.out, rfl⟩
        have hloi : (48 : Int) ≤ (s[k].toNat : Int) := by omega
        by_cases hhi : 57 < s[k].toNat
        · have HF : Hid (NumR (refNeg (L s)) _) := numR_none (by rw [HR.out, dec_bad s k hlt (.inr hhi)]; rfl)
          have hhii : (57 : Int) < (s[k].toNat : Int) := by omega
          clear HX
          go_wp2
          go_ret2
          exact ⟨HF.out, rfl⟩
        have hhii : (s[k].toNat : Int) ≤ 57 := by omega
        have HX2 : Hid (NumL s (k + 1) (x * 10 + ((s[k].toNat : Int) - 48)).toNat) := by
          rw [show (x * 10 + ((s[k].toNat : Int) - 48)).toNat = x.toNat * 10 + (s[k].toNat - 48) by omega]
          exact ⟨dec_step s k x.toNat hlt HX.out.1 (by omega) (by omega), pow_step k x.toNat HX.out.2 _ (by omega)⟩
        clear HX
        go_wp2
        go_round
        case rel => exact ⟨k + 1, _, by omega, by go_num, rfl, by omega, HX2⟩
        case measure => simp [intOf]; omega
      · have hlt' : s.size ≤ k := by omega
        have hd := dec_all s k x.toNat hlt' HX.out.1
        have hks : k = s.size := by omega
        by_cases hbig : 9223372036854775808 < x.toNat
        · have HF : Hid (NumR (refNeg (L s)) _) := numR_none (by rw [HR.out, hd, Option.bind_some, if_pos hbig])
          have hbi : (9223372036854775808 : Int) < x := by omega
          clear hbig hd HX
          go_wp2
          go_ret2
          exact ⟨HF.out, rfl⟩
        · have HF : Hid (NumR (refNeg (L s)) _) := numR_some (n := -x) (by rw [HR.out, hd, Option.bind_some, if_neg hbig, Int.toNat_of_nonneg hx0])
          have hbi : (x : Int) ≤ 9223372036854775808 := by omega
          have hcv : wrap64 (IntKind.u64.wrap (bits .xor .u64 IntKind.u64.max x + 1)) = -x := neg_back x hx0 hbi
          clear hbig hd HX
          go_wp2
          go_ret2
          exact ⟨HF.out, rfl⟩
/-- What number tells of any word. -/
theorem number_any (t : List UInt8) (w : World) (hl : t.length ≤ 512) : Calls Try.prog 24 #[.string (ba t)] w fun e w' => NumR (numOf t) e ∧ w' = w := by
  rw [← refNum_eq]
  unfold refNum
  by_cases h : t.head? = some 45
  · rw [if_pos h]
    cases t with
    | nil => simp at h
    | cons c t =>
      simp at h
      subst h
      have := number_neg (ba (45 :: t)) (ba t) w (by rw [ba_size]; simp at hl; omega) (by rw [ba_size, ba_size]; simp) (fun h => by
        have e := head_byte _ h
        rw [L_ba] at e
        simp at e
        rw [← e]
        rfl) (by
        apply ba_ext
        show L _ = L _
        rw [L_ext, L_ba, L_ba, ba_size]
        simp)
      rw [L_ba] at this
      simpa using this
  · rw [if_neg h]
    have := number_pos (ba t) w (by rw [ba_size]; omega) (fun h' e => h (by
      have e2 := head_byte _ h'
      rw [L_ba] at e2
      rw [e2]
      congr 1
      exact (nat_byte _ 45 (by omega)).2 e))
    rw [L_ba] at this
    exact this
end Go.Proofs.Ytjegnffhegiajaa
