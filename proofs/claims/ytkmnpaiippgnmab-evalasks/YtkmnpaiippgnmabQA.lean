/- Texts laid together: LRWord, LRNum, LRSplit, LRRead. -/
import Derived.Test.YtkmnpaiippgnmabQ1
import Derived.Test.YtkmnpaiippgnmabRows
import Derived.Test.YtkmnpaiippgnmabQ2
import Derived.WalkKit
import Derived.WalkSmall
import Derived.Below
import Derived.Test.YtkmnpaiippgnmabQ4
import Derived.Deep.LoopGhost
/- The page's own: words; sums of strings. -/
namespace Go.Proofs.Ytkmnpaiippgnmab
open Go.RowKit
set_option linter.unusedVariables false
set_option maxRecDepth 100000

theorem hidD {p : Prop} (h : p) : Hid p := h
theorem ba_app (a b : List UInt8) : ba a ++ ba b = ba (a ++ b) := by apply ba_ext; show L _ = L _; rw [L_app, L_ba, L_ba, L_ba]
theorem ba_size (l : List UInt8) : (ba l).size = l.length := by rw [← L_len, L_ba]
theorem add_ba (a b : List UInt8) (h : a.length + b.length ≤ 100000) (W : World) : (Op.stringOp .add (ba a) (ba b)).run Try.prog W = .ok (.string (ba (a ++ b))) W := by
  rw [← ba_app]
  exact run_string_add_sum W _ _ (by rw [ba_size, ba_size]; omega)
theorem words_any (w : World) : Calls Try.prog 29 #[] w fun e w' => e = .returned (.slice (some ⟨w.heap.size, 0, none⟩) 29 29) ∧ (∀ k, k < 29 → w'.cell? ⟨w.heap.size, k, none⟩ = some (.string (ba (tab.getD (k + 2) [])))) ∧ Below w.heap.size w w' := by
  go_enter Try.func29, Try.ntmps29
  go_wp2
  go_ret
  refine ⟨rfl, fun k hk => ?_, (Below.refl _ _).alloc (Nat.le_refl _) _⟩
  rw [World.cell?_alloc_new]
  show (((tab.drop 2).map fun l => Value.string (ba l)).toArray)[k]? = _
  have hl : k + 2 < tab.length := by show k + 2 < 31; omega
  simp [List.getElem?_eq_getElem hl]
  rw [Nat.add_comm 2 k]
  simp [List.getElem?_eq_getElem hl]
end Go.Proofs.Ytkmnpaiippgnmab
/- The page's own: number. -/
namespace Go.Proofs.Ytkmnpaiippgnmab
open Go.RowKit Go.Lib
set_option linter.unusedVariables false
set_option maxRecDepth 100000

theorem take_byte (s : ByteArray) (k : Nat) (h : k < s.size) : (L s).take (k + 1) = (L s).take k ++ [s[k]] := by
  rw [List.take_add_one]
  have : (L s)[k]? = some s[k] := by
    have e := drop_byte s k h
    have : (s.data.toList.drop k)[0]? = some s[k] := by rw [e]; rfl
    rw [List.getElem?_drop] at this
    simpa using this
  rw [this]
  rfl
theorem decFrom_app (l r : List UInt8) : ∀ acc, decFrom acc (l ++ r) = (decFrom acc l).bind fun n => decFrom n r := by
  induction l with
  | nil => intro acc; rfl
  | cons b l ih =>
    intro acc
    simp only [List.cons_append, decFrom]
    cases digitVal b with
    | none => rfl
    | some d => exact ih _
/-- One digit more. -/
theorem dec_step (s : ByteArray) (k x : Nat) (h : k < s.size) (hd : decFrom 0 ((L s).take k) = some x) (h0 : 48 ≤ s[k].toNat) (h1 : s[k].toNat ≤ 57) : decFrom 0 ((L s).take (k + 1)) = some (x * 10 + (s[k].toNat - 48)) := by
  rw [take_byte s k h, decFrom_app, hd, Option.bind_some]
  simp only [decFrom, digitVal]
  rw [if_pos ⟨h0, h1⟩]
theorem dec_bad (s : ByteArray) (k : Nat) (h : k < s.size) (hb : s[k].toNat < 48 ∨ 57 < s[k].toNat) : decFrom 0 (L s) = none := by
  have e : L s = (L s).take k ++ (s[k] :: (L s).drop (k + 1)) := by rw [← drop_byte s k h]; exact (List.take_append_drop k _).symm
  rw [e, decFrom_app]
  cases decFrom 0 ((L s).take k) with
  | none => rfl
  | some n =>
    simp only [Option.bind_some, decFrom, digitVal]
    rw [if_neg (by omega)]
theorem dec_all (s : ByteArray) (k x : Nat) (h : s.size ≤ k) (hd : decFrom 0 ((L s).take k) = some x) : decFrom 0 (L s) = some x := by
  rw [List.take_of_length_le (by rw [L_len]; exact h)] at hd
  exact hd
theorem head_byte (s : ByteArray) (h : 0 < s.size) : (L s).head? = some s[0] := by
  have := drop_byte s 0 h
  simp only [List.drop_zero] at this
  show (s.data.toList).head? = _
  rw [this]
  rfl
theorem nat_byte (c : UInt8) (n : Nat) (hn : n < 256) : (c = UInt8.ofNat n) ↔ c.toNat = n := by
  constructor
  · rintro rfl; simp; omega
  · intro h; rw [← h]; simp
theorem empty_size {s : ByteArray} (h : s.toList.isEmpty = true) : s.size = 0 := by
  rw [ByteArray.toList_eq, List.isEmpty_iff] at h
  rw [← L_len]
  exact congrArg List.length h
theorem not_empty {s : ByteArray} (h : s.size ≠ 0) : s.toList.isEmpty = false := by
  cases hb : s.toList.isEmpty with
  | false => rfl
  | true => exact absurd (empty_size hb) h
/-- What number tells. -/
def NumR (r : Option Int) (e : Ending) : Prop := e = .returned (.tuple #[.int .i64 (r.getD 0), .bool r.isSome])
theorem numR_none {r : Option Int} (h : r = none) : NumR r (.returned (.tuple #[.int .i64 0, .bool false])) := by subst h; rfl
theorem numR_some {r : Option Int} {n : Int} (h : r = some n) : NumR r (.returned (.tuple #[.int .i64 n, .bool true])) := by subst h; rfl
theorem pow_step (k x : Nat) (h : x < 10 ^ k) (d : Nat) (hd : d < 10) : x * 10 + d < 10 ^ (k + 1) := by rw [Nat.pow_succ]; omega
theorem pow_small (k x : Nat) (h : x < 10 ^ k) (hk : k ≤ 18) : x < 1000000000000000000 :=
  Nat.lt_of_lt_of_le h (Nat.pow_le_pow_right (by omega) hk)
/-- The rounds of number. -/
def NumL (s : ByteArray) (k x : Nat) : Prop := decFrom 0 ((L s).take k) = some x ∧ x < 10 ^ k
theorem neg_back (x : Int) (h0 : 0 ≤ x) (h1 : x ≤ 9223372036854775808) : wrap64 (IntKind.u64.wrap (bits .xor .u64 IntKind.u64.max x + 1)) = -x := by
  rw [not_u64 _ (by omega) (by omega), IntKind.wrap_u64]
  unfold wrap64
  omega
set_option maxHeartbeats 800000 in
theorem number_pos (s : ByteArray) (w : World) (hl : s.size ≤ 600) (h45 : ∀ h : 0 < s.size, s[0].toNat ≠ 45) :
    Calls Try.prog 28 #[.string s] w fun e w' => NumR (refPos (L s)) e ∧ w' = w := by
  by_cases h0 : s.size = 0
  · have hs : s = ⟨#[]⟩ := by apply ba_ext; show L s = []; exact List.length_eq_zero_iff.1 (by rw [L_len]; exact h0)
    subst hs
    have HR : Hid (NumR (refPos (L ⟨#[]⟩)) _) := numR_none (by unfold refPos; rw [if_pos (.inl rfl)])
    go_enter Try.func28, Try.ntmps28
    go_wp2
    go_ret2
    exact ⟨HR.out, rfl⟩
  have hp : 0 < s.size := by omega
  have hpi : (0 : Int) < (s.size : Int) := by omega
  have h45' := h45 hp
  have hb45 : ((s[0].toNat : Int) == 45) = false := beq_eq_false_iff_ne.2 (by omega)
  have hne := not_empty h0
  by_cases h19 : 19 < s.size
  · have HR : Hid (NumR (refPos (L s)) _) := numR_none (by unfold refPos; rw [if_pos (.inr (.inl (by rw [L_len]; exact h19)))])
    have h19i : (19 : Int) < (s.size : Int) := by omega
    clear h45
    go_enter Try.func28, Try.ntmps28
    go_wp2
    go_ret2
    exact ⟨HR.out, rfl⟩
  have h19i : (s.size : Int) ≤ 19 := by omega
  by_cases h48 : s[0].toNat = 48 ∧ 1 < s.size
  · obtain ⟨h48, h1⟩ := h48
    have HR : Hid (NumR (refPos (L s)) _) := numR_none (by unfold refPos; rw [if_pos (.inr (.inr ⟨by rw [head_byte s hp]; congr 1; exact (nat_byte _ 48 (by omega)).2 h48, by rw [L_len]; exact h1⟩))])
    have hb48 : ((s[0].toNat : Int) == 48) = true := beq_iff_eq.2 (by omega)
    have h1i : (1 : Int) < (s.size : Int) := by omega
    clear h45
    go_enter Try.func28, Try.ntmps28
    go_wp2
    go_ret2
    exact ⟨HR.out, rfl⟩
  have hR : refPos (L s) = (decFrom 0 (L s)).bind fun u => if 9223372036854775808 ≤ u then none else some (u : Int) := by
    unfold refPos
    rw [if_neg]
    rintro (h | h | ⟨h, h'⟩)
    · exact h0 (by rw [← L_len, h]; rfl)
    · rw [L_len] at h; omega
    · rw [head_byte s hp] at h
      rw [L_len] at h'
      exact h48 ⟨(nat_byte _ 48 (by omega)).1 (Option.some.inj h), h'⟩
  have HR := hidD hR
  clear hR h45
  have hway : ((s[0].toNat : Int) == 48) = false ∨ (((s[0].toNat : Int) == 48) = true ∧ (s.size : Int) ≤ 1) := by
    by_cases h : s[0].toNat = 48
    · exact .inr ⟨beq_iff_eq.2 (by omega), by omega⟩
    · exact .inl (beq_eq_false_iff_ne.2 (by omega))
  rcases hway with hb48 | ⟨hb48, h1i⟩
  all_goals
    go_enter Try.func28, Try.ntmps28
    go_wp2
    go_loop [6, 7] (fun u i => ∃ (k : Nat) (x : Int), k ≤ s.size ∧ i = .int .i64 k ∧ u = .int .u64 x ∧ 0 ≤ x ∧ Hid (NumL s k x.toNat)) (fun _ i => s.size - (intOf i).toNat)
    case atStart => exact ⟨0, 0, by omega, rfl, rfl, by omega, ⟨by simp [decFrom], by decide⟩⟩
    case round =>
      obtain ⟨k, x, hk, rfl, rfl, hx0, HX⟩ := hrel
      by_cases hlt : k < s.size
      · have hlti : (k : Int) < (s.size : Int) := by omega
        have hxs : x < 1000000000000000000 := by have := pow_small k x.toNat HX.out.2 (by omega); omega
        have hc1 : s[k].toNat < 256 := s[k].toNat_lt
        by_cases hlo : s[k].toNat < 48
        · have HF : Hid (NumR (refPos (L s)) _) := numR_none (by rw [HR.out, dec_bad s k hlt (.inl hlo)]; rfl)
          have hloi : (s[k].toNat : Int) < 48 := by omega
          clear HX
          go_wp2
          go_ret2
          exact ⟨HF.out, rfl⟩
        have hloi : (48 : Int) ≤ (s[k].toNat : Int) := by omega
        by_cases hhi : 57 < s[k].toNat
        · have HF : Hid (NumR (refPos (L s)) _) := numR_none (by rw [HR.out, dec_bad s k hlt (.inr hhi)]; rfl)
          have hhii : (57 : Int) < (s[k].toNat : Int) := by omega
          clear HX
          go_wp2
          go_ret2
          exact ⟨HF.out, rfl⟩
        have hhii : (s[k].toNat : Int) ≤ 57 := by omega
        have HX2 : Hid (NumL s (k + 1) (x * 10 + ((s[k].toNat : Int) - 48)).toNat) := by
          rw [show (x * 10 + ((s[k].toNat : Int) - 48)).toNat = x.toNat * 10 + (s[k].toNat - 48) by omega]
          exact ⟨dec_step s k x.toNat hlt HX.out.1 (by omega) (by omega), pow_step k x.toNat HX.out.2 _ (by omega)⟩
        clear HX
        go_wp2
        go_round
        case rel => exact ⟨k + 1, _, by omega, by go_num, rfl, by omega, HX2⟩
        case measure => simp [intOf]; omega
      · have hlt' : s.size ≤ k := by omega
        have hd := dec_all s k x.toNat hlt' HX.out.1
        have hks : k = s.size := by omega
        by_cases hbig : 9223372036854775808 ≤ x.toNat
        · have HF : Hid (NumR (refPos (L s)) _) := numR_none (by rw [HR.out, hd, Option.bind_some, if_pos hbig])
          have hbi : (9223372036854775808 : Int) ≤ x := by omega
          clear hbig hd HX
          go_wp2
          go_ret2
          exact ⟨HF.out, rfl⟩
        · have HF : Hid (NumR (refPos (L s)) _) := numR_some (n := x) (by rw [HR.out, hd, Option.bind_some, if_neg hbig, Int.toNat_of_nonneg hx0])
          have hbi : (x : Int) < 9223372036854775808 := by omega
          clear hbig hd HX
          go_wp2
          go_ret2
          exact ⟨HF.out, rfl⟩
set_option maxHeartbeats 800000 in
theorem number_neg (s0 s : ByteArray) (w : World) (hl : s.size ≤ 600) (hs0 : s0.size = s.size + 1) (h45 : ∀ h : 0 < s0.size, s0[0].toNat = 45) (hx : s0.extract 1 (s.size + 1) = s) :
    Calls Try.prog 28 #[.string s0] w fun e w' => NumR (refNeg (L s)) e ∧ w' = w := by
  have hp0 : 0 < s0.size := by omega
  have hpi0 : (0 : Int) < (s0.size : Int) := by omega
  have hb45 : ((s0[0].toNat : Int) == 45) = true := beq_iff_eq.2 (by have := h45 hp0; omega)
  clear h45
  by_cases h0 : s.size = 0
  · have hs : s = ⟨#[]⟩ := by apply ba_ext; show L s = []; exact List.length_eq_zero_iff.1 (by rw [L_len]; exact h0)
    subst hs
    have HR : Hid (NumR (refNeg (L ⟨#[]⟩)) _) := numR_none (by unfold refNeg; rw [if_pos (.inl rfl)])
    go_enter Try.func28, Try.ntmps28
    go_wp2
    go_ret2
    exact ⟨HR.out, rfl⟩
  have hp : 0 < s.size := by omega
  have hpi : (0 : Int) < (s.size : Int) := by omega
  have hne := not_empty h0
  by_cases h19 : 19 < s.size
  · have HR : Hid (NumR (refNeg (L s)) _) := numR_none (by unfold refNeg; rw [if_pos (.inr (.inl (by rw [L_len]; exact h19)))])
    have h19i : (19 : Int) < (s.size : Int) := by omega
    go_enter Try.func28, Try.ntmps28
    go_wp2
    go_ret2
    exact ⟨HR.out, rfl⟩
  have h19i : (s.size : Int) ≤ 19 := by omega
  by_cases h48 : s[0].toNat = 48
  · have HR : Hid (NumR (refNeg (L s)) _) := numR_none (by unfold refNeg; rw [if_pos (.inr (.inr (by rw [head_byte s hp]; congr 1; exact (nat_byte _ 48 (by omega)).2 h48)))])
    have hb48 : ((s[0].toNat : Int) == 48) = true := beq_iff_eq.2 (by omega)
    go_enter Try.func28, Try.ntmps28
    go_wp2
    all_goals
      go_ret2
      exact ⟨HR.out, rfl⟩
  have hR : refNeg (L s) = (decFrom 0 (L s)).bind fun u => if 9223372036854775808 < u then none else some (-(u : Int)) := by
    unfold refNeg
    rw [if_neg]
    rintro (h | h | h)
    · exact h0 (by rw [← L_len, h]; rfl)
    · rw [L_len] at h; omega
    · rw [head_byte s hp] at h
      exact h48 ((nat_byte _ 48 (by omega)).1 (Option.some.inj h))
  have HR := hidD hR
  clear hR
  have hb48 : ((s[0].toNat : Int) == 48) = false := beq_eq_false_iff_ne.2 (by omega)
  refine id ?_
  all_goals
    go_enter Try.func28, Try.ntmps28
    go_wp2
    go_loop [6, 7] (fun u i => ∃ (k : Nat) (x : Int), k ≤ s.size ∧ i = .int .i64 k ∧ u = .int .u64 x ∧ 0 ≤ x ∧ Hid (NumL s k x.toNat)) (fun _ i => s.size - (intOf i).toNat)
    case atStart => exact ⟨0, 0, by omega, rfl, rfl, by omega, ⟨by simp [decFrom], by decide⟩⟩
    case round =>
      obtain ⟨k, x, hk, rfl, rfl, hx0, HX⟩ := hrel
      by_cases hlt : k < s.size
      · have hlti : (k : Int) < (s.size : Int) := by omega
        have hxs : x < 1000000000000000000 := by have := pow_small k x.toNat HX.out.2 (by omega); omega
        have hc1 : s[k].toNat < 256 := s[k].toNat_lt
        by_cases hlo : s[k].toNat < 48
        · have HF : Hid (NumR (refNeg (L s)) _) := numR_none (by rw [HR.out, dec_bad s k hlt (.inl hlo)]; rfl)
          have hloi : (s[k].toNat : Int) < 48 := by omega
          clear HX
          go_wp2
          go_ret2
          exact ⟨HF.out, rfl⟩
        have hloi : (48 : Int) ≤ (s[k].toNat : Int) := by omega
        by_cases hhi : 57 < s[k].toNat
        · have HF : Hid (NumR (refNeg (L s)) _) := numR_none (by rw [HR.out, dec_bad s k hlt (.inr hhi)]; rfl)
          have hhii : (57 : Int) < (s[k].toNat : Int) := by omega
          clear HX
          go_wp2
          go_ret2
          exact ⟨HF.out, rfl⟩
        have hhii : (s[k].toNat : Int) ≤ 57 := by omega
        have HX2 : Hid (NumL s (k + 1) (x * 10 + ((s[k].toNat : Int) - 48)).toNat) := by
          rw [show (x * 10 + ((s[k].toNat : Int) - 48)).toNat = x.toNat * 10 + (s[k].toNat - 48) by omega]
          exact ⟨dec_step s k x.toNat hlt HX.out.1 (by omega) (by omega), pow_step k x.toNat HX.out.2 _ (by omega)⟩
        clear HX
        go_wp2
        go_round
        case rel => exact ⟨k + 1, _, by omega, by go_num, rfl, by omega, HX2⟩
        case measure => simp [intOf]; omega
      · have hlt' : s.size ≤ k := by omega
        have hd := dec_all s k x.toNat hlt' HX.out.1
        have hks : k = s.size := by omega
        by_cases hbig : 9223372036854775808 < x.toNat
        · have HF : Hid (NumR (refNeg (L s)) _) := numR_none (by rw [HR.out, hd, Option.bind_some, if_pos hbig])
          have hbi : (9223372036854775808 : Int) < x := by omega
          clear hbig hd HX
          go_wp2
          go_ret2
          exact ⟨HF.out, rfl⟩
        · have HF : Hid (NumR (refNeg (L s)) _) := numR_some (n := -x) (by rw [HR.out, hd, Option.bind_some, if_neg hbig, Int.toNat_of_nonneg hx0])
          have hbi : (x : Int) ≤ 9223372036854775808 := by omega
          have hcv : wrap64 (IntKind.u64.wrap (bits .xor .u64 IntKind.u64.max x + 1)) = -x := neg_back x hx0 hbi
          clear hbig hd HX
          go_wp2
          go_ret2
          exact ⟨HF.out, rfl⟩
/-- What number tells of any word. -/
theorem number_any (t : List UInt8) (w : World) (hl : t.length ≤ 512) : Calls Try.prog 28 #[.string (ba t)] w fun e w' => NumR (numOf t) e ∧ w' = w := by
  rw [← refNum_eq]
  unfold refNum
  by_cases h : t.head? = some 45
  · rw [if_pos h]
    cases t with
    | nil => simp at h
    | cons c t =>
      simp at h
      subst h
      have := number_neg (ba (45 :: t)) (ba t) w (by rw [ba_size]; simp at hl; omega) (by rw [ba_size, ba_size]; simp) (fun h => by
        have e := head_byte _ h
        rw [L_ba] at e
        simp at e
        rw [← e]
        rfl) (by
        apply ba_ext
        show L _ = L _
        rw [L_ext, L_ba, L_ba, ba_size]
        simp)
      rw [L_ba] at this
      simpa using this
  · rw [if_neg h]
    have := number_pos (ba t) w (by rw [ba_size]; omega) (fun h' e => h (by
      have e2 := head_byte _ h'
      rw [L_ba] at e2
      rw [e2]
      congr 1
      exact (nat_byte _ 45 (by omega)).2 e))
    rw [L_ba] at this
    exact this
end Go.Proofs.Ytkmnpaiippgnmab
/- The page's own: split. -/
namespace Go.Proofs.Ytkmnpaiippgnmab
open Go.RowKit
set_option linter.unusedVariables false
set_option maxRecDepth 100000

theorem Try.infoStr : (Try.prog.info? 9).map (fun i => (i.zero, i.size, i.bytes)) = some (some (.string ⟨#[]⟩), 1, 16) := by kernel_rfl
theorem one_strS (s : ByteArray) : ∀ u ∈ [Value.string s], u.oneCell' = true := by intro u hu; simp at hu; subst hu; rfl
theorem ext_one (s : ByteArray) (k : Nat) (h : k < s.size) : s.extract k (k + 1) = ba [s[k]] := by
  apply ba_ext
  show L _ = L _
  rw [L_ext, L_ba]
  have := drop_byte s k h
  rw [show (L s).drop k = s[k] :: (L s).drop (k + 1) from this]
  simp
theorem blank_of (c : UInt8) : blankB c = (((c.toNat : Int) == 32) || ((c.toNat : Int) == 10)) := by
  have h1 : (c == 32) = ((c.toNat : Int) == 32) := by
    by_cases h : c = 32
    · subst h; rfl
    · rw [beq_eq_false_iff_ne.2 h, beq_eq_false_iff_ne.2]
      intro e
      exact h ((nat_byte c 32 (by omega)).2 (by omega))
  have h2 : (c == 10) = ((c.toNat : Int) == 10) := by
    by_cases h : c = 10
    · subst h; rfl
    · rw [beq_eq_false_iff_ne.2 h, beq_eq_false_iff_ne.2]
      intro e
      exact h ((nat_byte c 10 (by omega)).2 (by omega))
  unfold blankB
  rw [h1, h2]
/-- Where split has come to. -/
def SplL (s : ByteArray) (k : Nat) (done : List (List UInt8)) (acc : List UInt8) : Prop :=
  acc.length ≤ k ∧ done.length ≤ k ∧ ((k ≤ s.size ∧ splitG [] (L s) = done ++ splitG acc ((L s).drop k)) ∨ (k = s.size + 1 ∧ splitG [] (L s) = done))
theorem spl_end {s : ByteArray} {done : List (List UInt8)} {acc : List UInt8} (h : SplL s s.size done acc) : SplL s (s.size + 1) (if acc = [] then done else done ++ [acc]) [] := by
  obtain ⟨h1, h2, h3⟩ := h
  rcases h3 with ⟨_, h3⟩ | ⟨h3, _⟩
  · rw [List.drop_of_length_le (by rw [L_len]; exact Nat.le_refl _)] at h3
    refine ⟨by simp, ?_, .inr ⟨rfl, ?_⟩⟩
    · split
      · omega
      · simp; exact h2
    · rw [h3]
      simp only [splitG]
      split <;> simp
  · omega
theorem spl_blank {s : ByteArray} {k : Nat} {done : List (List UInt8)} {acc : List UInt8} (h : SplL s k done acc) (hk : k < s.size) (hb : blankB s[k] = true) : SplL s (k + 1) (if acc = [] then done else done ++ [acc]) [] := by
  obtain ⟨h1, h2, h3⟩ := h
  rcases h3 with ⟨_, h3⟩ | ⟨h3, _⟩
  · rw [show (L s).drop k = s[k] :: (L s).drop (k + 1) from drop_byte s k hk, splitG, if_pos hb] at h3
    refine ⟨by simp, ?_, .inl ⟨by omega, ?_⟩⟩
    · split
      · omega
      · simp; exact h2
    · rw [h3]
      split <;> simp
  · omega
theorem spl_more {s : ByteArray} {k : Nat} {done : List (List UInt8)} {acc : List UInt8} (h : SplL s k done acc) (hk : k < s.size) (hb : blankB s[k] = false) : SplL s (k + 1) done (acc ++ [s[k]]) := by
  obtain ⟨h1, h2, h3⟩ := h
  rcases h3 with ⟨_, h3⟩ | ⟨h3, _⟩
  · rw [show (L s).drop k = s[k] :: (L s).drop (k + 1) from drop_byte s k hk, splitG, if_neg (by rw [hb]; simp)] at h3
    exact ⟨by simp; exact h1, by omega, .inl ⟨by omega, h3⟩⟩
  · omega
theorem spl_done {s : ByteArray} {k : Nat} {done : List (List UInt8)} {acc : List UInt8} (h : SplL s k done acc) (hk : s.size < k) : splitG [] (L s) = done := by
  obtain ⟨_, _, ⟨h3, _⟩ | ⟨_, h3⟩⟩ := h
  · omega
  · exact h3
/-- Words gathered. -/
structure Sp (B : Nat) (w : World) (v : Value) (wl : List ByteArray) (wr : World) : Prop where
  own : OwnS wr B v wl
  bel : Below B w wr
  size : B ≤ wr.heap.size
theorem Sp.app {B : Nat} {w wr w2 : World} {v v2 : Value} {wl : List ByteArray} {x : ByteArray} (h : Sp B w v wl wr)
    (ho : w2.ownsRow B 9 1 v2 (wl.length + 1) (flatS wl ++ [.string x])) (hg : wr.grownBy w2 v.ownBlock) : Sp B w v2 (wl ++ [x]) w2 :=
  ⟨OwnS.snoc ho rfl, h.bel.grown hg h.size (own_rowS h.own), Nat.le_trans h.size hg.size⟩
theorem Sp.box {B : Nat} {w wr : World} {v : Value} {wl : List ByteArray} (h : Sp B w v wl wr) (o : Obj) : Sp B w v wl (wr.alloc o) :=
  ⟨OwnS.below h.own ((Below.refl _ _).alloc (Nat.le_refl _) _), h.bel.alloc h.size _, by simp; have := h.size; omega⟩
set_option maxHeartbeats 800000 in
theorem split_any (s : ByteArray) (w : World) (hs : s.size ≤ 512) :
    Calls Try.prog 19 #[.string s] w fun e w' => ∃ v, e = .returned v ∧ OwnS w' w.heap.size v (splitB s) ∧ Below w.heap.size w w' := by
  obtain ⟨i9, hi, hz0, hz1, hz2⟩ := info_parts Try.infoStr
  have hsi : (s.size : Int) ≤ 512 := by omega
  go_enter Try.func19, Try.ntmps19
  go_wp2
  go_loopw [3, 4, 5] (fun v x i wr => ∃ (k : Nat) (done : List (List UInt8)) (acc : List UInt8), k ≤ s.size + 1 ∧ i = .int .i64 k ∧ x = .string (ba acc) ∧ Hid (SplL s k done acc) ∧ Hid (Sp w.heap.size w v (done.map ba) wr)) (fun _ _ i _ => s.size + 1 - (intOf i).toNat)
  case atStart => exact ⟨0, [], [], by omega, rfl, rfl, ⟨by simp, by simp, .inl ⟨by omega, by simp⟩⟩, ⟨World.ownsRow_nil _ _ _ _, Below.refl _ _, Nat.le_refl _⟩⟩
  case round =>
    obtain ⟨k, done, acc, hk, rfl, rfl, HS, HP⟩ := hrel
    obtain ⟨a, cap, hv⟩ := OwnS.shape HP.out.own
    rw [List.length_map] at hv
    subst hv
    have hdl := HS.out.2.1
    have hsz := HP.out.size
    have hal := HS.out.1
    by_cases hend : s.size < k
    · have hendi : (s.size : Int) < (k : Int) := by omega
      have HE : Hid (OwnS wr w.heap.size (.slice a done.length cap) (splitB s)) := by
        unfold Hid splitB
        rw [spl_done HS.out hend]
        exact HP.out.own
      go_wp2
      go_ret
      exact ⟨_, rfl, HE.out, HP.out.bel⟩
    have hki : (k : Int) ≤ (s.size : Int) := by omega
    by_cases hblank : k = s.size ∨ ∃ h : k < s.size, blankB s[k] = true
    · have HS2 : Hid (SplL s (k + 1) (if acc = [] then done else done ++ [acc]) []) := by
        rcases hblank with rfl | ⟨h, hb⟩
        · exact spl_end HS.out
        · exact spl_blank HS.out h hb
      have hway : ((k : Int) == (s.size : Int)) = true ∨ (∃ h : k < s.size, ((k : Int) == (s.size : Int)) = false ∧ ((s[k].toNat : Int) == 32) = true) ∨ (∃ h : k < s.size, ((k : Int) == (s.size : Int)) = false ∧ ((s[k].toNat : Int) == 32) = false ∧ ((s[k].toNat : Int) == 10) = true) := by
        rcases hblank with rfl | ⟨h, hb⟩
        · exact .inl (beq_self_eq_true _)
        · have hne : ((k : Int) == (s.size : Int)) = false := beq_eq_false_iff_ne.2 (by omega)
          rw [blank_of] at hb
          cases h32 : ((s[k].toNat : Int) == 32) with
          | true => exact .inr (.inl ⟨h, hne, h32⟩)
          | false =>
            rw [h32] at hb
            exact .inr (.inr ⟨h, hne, h32, by simpa using hb⟩)
      clear hblank HS
      by_cases hacc : acc = []
      · rw [if_pos hacc] at HS2
        subst hacc
        rcases hway with h1 | ⟨hlt, h1, h2⟩ | ⟨hlt, h1, h2, h3⟩
        all_goals
          go_wp2
          go_roundw
          case rel => exact ⟨k + 1, done, [], by omega, by go_num, rfl, HS2, HP⟩
          case measure => simp [intOf]; omega
      · rw [if_neg hacc] at HS2
        have hne : acc.isEmpty = false := by simpa using hacc
        have HP1 := hidD (HP.out.box (.cells #[.string (ba acc)] 9))
        have hl1 : done.length + 1 ≤ 600 := by omega
        clear hacc
        rcases hway with h1 | ⟨hlt, h1, h2⟩ | ⟨hlt, h1, h2, h3⟩
        all_goals
          go_wp2_with (at_builtin; refine wpList_append_own_at _ rfl _ _ 22 rfl w.heap.size 9 i9 _ 1 16 Try.underlying22 hi hz0 hz1 hz2 rfl (by decide) (.slice a done.length cap) done.length (flatS (done.map ba)) rfl ?caO ⟨wr.heap.size, 0, none⟩ 1 1 [.string (ba acc)] rfl rfl (cell_one_new _ _ _) (one_strS _) ?ca3 ?ca4 ?ca5 ?_)
          case caO => have := HP1.out.own; unfold OwnS at this; rw [List.length_map] at this; exact this
          case ca3 => unfold maxLen; omega
          case ca4 => omega
          case ca5 => simp; omega
          intro v2 w2 hown2 hgrow2 _ hat2
          have HP2 : Hid (Sp w.heap.size w v2 ((done ++ [acc]).map ba) w2) := by
            have := HP1.out.app (v2 := v2) (x := ba acc) (by rw [List.length_map]; simpa [flatS] using hown2) hgrow2
            simpa [Hid] using this
          clear hown2 hgrow2 hat2
          go_wp2
          go_roundw
          case rel => exact ⟨k + 1, done ++ [acc], [], by omega, by go_num, rfl, HS2, HP2⟩
          case measure => simp [intOf]; omega
    · have hlt : k < s.size := by
        by_cases h : k = s.size
        · exact absurd (.inl h) hblank
        · omega
      have hb : blankB s[k] = false := by
        cases h : blankB s[k] with
        | false => rfl
        | true => exact absurd (.inr ⟨hlt, h⟩) hblank
      have HS2 := hidD (spl_more HS.out hlt hb)
      rw [blank_of, Bool.or_eq_false_iff] at hb
      obtain ⟨h32, h10⟩ := hb
      have hne : ((k : Int) == (s.size : Int)) = false := beq_eq_false_iff_ne.2 (by omega)
      have hex := ext_one s k hlt
      have hk1 : (k : Int) + 1 ≤ (s.size : Int) := by omega
      have hk2 : (k : Int) ≤ (k : Int) + 1 := by omega
      have hk3 : (0 : Int) ≤ (k : Int) := by omega
      have hadd := add_ba acc [s[k]] (by simp; omega)
      clear hblank HS
      go_wp2
      go_roundw
      case rel => exact ⟨k + 1, done, acc ++ [s[k]], by omega, by go_num, rfl, HS2, HP⟩
      case measure => simp [intOf]; omega
end Go.Proofs.Ytkmnpaiippgnmab
/- The page's own reader of words: what lies in memory. -/
namespace Go.Proofs.Ytkmnpaiippgnmab
open Go.RowKit
set_option linter.unusedVariables false
set_option maxRecDepth 100000

/-- At block R a reader of the words ws (which lie in block G), behind m ops. -/
def RP (w : World) (R G : Nat) (ws : List (List UInt8)) (m : Nat) : Prop :=
  G ≠ R ∧ G < w.heap.size ∧ ∃ a cap o, w.heap[R]? = some (.cells #[.slice a ws.length cap, .int .i64 m] 58 (0, 0)) ∧ ws.length ≤ cap ∧ (ws = [] ∨ a = some ⟨G, o, none⟩) ∧ StrsAt w G o (ws.map ba)
theorem RP.lt {w : World} {R G m : Nat} {ws : List (List UInt8)} (h : RP w R G ws m) : R < w.heap.size := by
  obtain ⟨_, _, a, cap, o, hb, _⟩ := h
  exact (Array.getElem?_eq_some_iff.1 hb).1
/-- A reader stays where its two blocks do. -/
theorem RP.keep {w w' : World} {R G m : Nat} {ws : List (List UInt8)} (h : RP w R G ws m) (hR : w'.heap[R]? = w.heap[R]?) (hG : w'.heap[G]? = w.heap[G]?) (hs : w.heap.size ≤ w'.heap.size) : RP w' R G ws m := by
  obtain ⟨h1, h2, a, cap, o, hb, hc, ha, hst⟩ := h
  refine ⟨h1, by omega, a, cap, o, by rw [hR]; exact hb, hc, ha, fun i x hx => ?_⟩
  rw [World.cell?_of_block (a := ⟨G, o + i, none⟩) hG]
  exact hst i x hx
theorem RP.below {w w' : World} {R G m : Nat} {ws : List (List UInt8)} (h : RP w R G ws m) (hb : Below w.heap.size w w') : RP w' R G ws m := h.keep (hb.block _ h.lt) (hb.block _ h.2.1) hb.size
theorem rp_step {w : World} {R G m o cap cap' : Nat} {x : List UInt8} {ws : List (List UInt8)} {a a' : Option Addr} (hGR : G ≠ R) (hG : G < w.heap.size) (hb : w.heap[R]? = some (.cells #[.slice a (x :: ws).length cap, .int .i64 m] 58 (0, 0)))
    (hst : StrsAt w G o ((x :: ws).map ba)) (ha : ws = [] ∨ a' = some ⟨G, o + 1, none⟩) (hc : ws.length ≤ cap') :
    w.grownBy (w.setCell ⟨R, 0, none⟩ (.slice a' ws.length cap')) (some R) ∧ RP (w.setCell ⟨R, 0, none⟩ (.slice a' ws.length cap')) R G ws m := by
  refine ⟨⟨rfl, rfl, rfl, by simp [World.setCell], fun k hk hne => Below.heap_setCell _ _ _ _ (fun e => hne (by rw [e]))⟩, hGR, by simpa [World.setCell] using hG, a', cap', o + 1, ?_, hc, ha, fun i y hy => ?_⟩
  · show (w.heap.modify _ _)[R]? = _
    rw [Array.getElem?_modify, hb]
    simp
  · have := hst (i + 1) y (by simpa using hy)
    have e : (w.setCell ⟨R, 0, none⟩ (.slice a' ws.length cap')).cell? ⟨G, o + 1 + i, none⟩ = w.cell? ⟨G, o + 1 + i, none⟩ :=
      World.cell?_of_block (a := ⟨G, o + 1 + i, none⟩) (Below.heap_setCell _ _ _ _ hGR)
    rw [e, show o + 1 + i = o + (i + 1) by omega]
    exact this
theorem rp_many {w : World} {R G m : Nat} {ws : List (List UInt8)} (h : RP w R G ws m) (m' : Nat) : RP (w.setCell ⟨R, 1, none⟩ (.int .i64 (m' : Int))) R G ws m' := by
  obtain ⟨h1, h2, a, cap, o, hb, hc, ha, hst⟩ := h
  refine ⟨h1, by simpa [World.setCell] using h2, a, cap, o, ?_, hc, ha, fun i x hx => ?_⟩
  · show (w.heap.modify _ _)[R]? = _
    rw [Array.getElem?_modify, hb]
    simp
  · rw [World.cell?_of_block (a := ⟨G, o + i, none⟩) (Below.heap_setCell _ _ _ _ h1)]
    exact hst i x hx
theorem RP.cell1 {w : World} {R G m : Nat} {ws : List (List UInt8)} (h : RP w R G ws m) : w.cell? ⟨R, 1, none⟩ = some (.int .i64 m) ∧ w.frozen? ⟨R, 1, none⟩ = false := by
  obtain ⟨h1, h2, a, cap, o, hb, _⟩ := h
  constructor <;> simp [World.cell?, World.frozen?, hb]
theorem RP.set {w : World} {R G m b q : Nat} {ws : List (List UInt8)} (h : RP w R G ws m) (hR : b ≠ R) (hG : b ≠ G) (u : Value) : RP (w.setCell ⟨b, q, none⟩ u) R G ws m :=
  h.keep (Below.heap_setCell _ _ _ _ (by show R ≠ b; omega)) (Below.heap_setCell _ _ _ _ (by show G ≠ b; omega)) (by simp [World.setCell])

theorem RP.cells {w : World} {R G m : Nat} {ws : List (List UInt8)} (h : RP w R G ws m) : ∃ a cap, w.cell? ⟨R, 0, none⟩ = some (.slice a ws.length cap) ∧ w.frozen? ⟨R, 0, none⟩ = false ∧ ws.length ≤ cap := by
  obtain ⟨h1, h2, a, cap, o, hb, hc, _⟩ := h
  exact ⟨a, cap, by simp [World.cell?, hb], by simp [World.frozen?, hb], hc⟩
/-- The first word taken off. -/
theorem RP.pop {w : World} {R G m : Nat} {x : List UInt8} {ws : List (List UInt8)} (h : RP w R G (x :: ws) m) : ∃ o cap, w.cell? ⟨R, 0, none⟩ = some (.slice (some ⟨G, o, none⟩) (ws.length + 1) cap) ∧ w.cell? ⟨G, o, none⟩ = some (.string (ba x)) ∧ ws.length + 1 ≤ cap ∧ w.frozen? ⟨R, 0, none⟩ = false ∧
    ∀ a' cap', (ws = [] ∨ a' = some ⟨G, o + 1, none⟩) → ws.length ≤ cap' → w.grownBy (w.setCell ⟨R, 0, none⟩ (.slice a' ws.length cap')) (some R) ∧ RP (w.setCell ⟨R, 0, none⟩ (.slice a' ws.length cap')) R G ws m := by
  obtain ⟨hGR, hG, a, cap, o, hb, hc, ha, hst⟩ := h
  rcases ha with ha | rfl
  · simp at ha
  refine ⟨o, cap, by simp [World.cell?, hb], ?_, by simpa using hc, by simp [World.frozen?, hb], fun a' cap' h1 h2 => rp_step hGR hG hb hst h1 h2⟩
  have := hst 0 (ba x) rfl
  simpa using this
/-- The slice behind the first word. -/
theorem slice_pop (G o n cp : Nat) (h : n + 1 ≤ cp) : ∃ a', (n = 0 ∨ a' = some ⟨G, o + 1, none⟩) ∧ ∀ W, (Instr.slice 22 (.slice (some ⟨G, o, none⟩) (n + 1) cp) (some (.int .i64 1)) none none).run Try.prog W = .ok (.slice a' n (cp - 1)) W := by
  have hz := Try.sizeOf9
  have hr := fun W => run_slice_l (P := Try.prog) W 22 (some ⟨G, o, none⟩) (n + 1) cp Try.underlying22 .i64 1 (by omega) (by omega)
  have he : Try.prog.elem 22 = 9 := by kernel_rfl
  by_cases hc : cp = 1
  · refine ⟨some ⟨G, o, none⟩, .inl (by omega), fun W => ?_⟩
    rw [hr, he, hz]
    simp [sliced, hc]
  · refine ⟨some ⟨G, o + 1, none⟩, .inr rfl, fun W => ?_⟩
    rw [hr, he, hz]
    simp [sliced, hc, Addr.add]
/-- What the page's block tells. -/
def LResP (R G : Nat) (w w' : World) (e : Ending) : Rs → Prop
  | .err c => e = .returned (.tuple #[.slice none 0 0, .int .i64 c]) ∧ c ≠ 0
  | .ok f ws' m' => ∃ v, e = .returned (.tuple #[v, .int .i64 0]) ∧ OwnF w.heap.size w' v f ∧ RP w' R G ws' m'
def LRP (R G d : Nat) (ws : List (List UInt8)) (m : Nat) (w : World) (e : Ending) (w' : World) : Prop := ∃ r, PL d ws m r ∧ w.grownBy w' (some R) ∧ LResP R G w w' e r
def ListP (N : Nat) : Prop := ∀ (ws : List (List UInt8)) (d m R G : Nat) (w : World), ws.length < N → d ≤ 6 → m ≤ 128 → WW ws → RP w R G ws m →
  Calls Try.prog 20 #[.pointer (some ⟨R, 0, none⟩), .int .i64 d] w fun e w' => LRP R G d ws m w e w'
/-- Where the page's block has come to. -/
structure LP (R G d : Nat) (ws0 : List (List UInt8)) (m0 : Nat) (w : World) (ws : List (List UInt8)) (m : Nat) (v : Value) (wr : World) : Prop where
  own : ∃ acc, OwnF w.heap.size wr v acc ∧ acc.len ≤ m ∧ ∀ r, PL d ws m r → PL d ws0 m0 (r.pre acc)
  grown : w.grownBy wr (some R)
  rb : RP wr R G ws m
  ww : WW ws
  many : m ≤ 128
/-- One op more. -/
theorem lp_next {R G d m0 m' : Nat} {ws0 ws' : List (List UInt8)} {w W4 w3 : World} {v v3 sv : Value} {acc bb : Fo} {l : List Ro} {k n : Int} (hRl : R < w.heap.size) (hGl : G < w.heap.size)
    (hol : W4.ownsRow w.heap.size 33 3 v l.length (flatO l)) (hrl : Rows' (QX w.heap.size v) W4 l acc) (hg4 : w.grownBy W4 (some R)) (hr4 : RP W4 R G ws' m') (hww : WW ws') (hm : m' ≤ 128) (hacc : acc.len + 1 ≤ m')
    (hpl : ∀ r, PL d ws' m' r → PL d ws0 m0 (r.pre (acc.app (one k n bb)))) (hin : FS (QX w.heap.size v) (W4.alloc (.cells #[.int .i64 k, .int .i64 n, sv] 33)) sv bb)
    (hown3 : w3.ownsRow w.heap.size 33 3 v3 (l.length + 1) (flatO l ++ [.int .i64 k, .int .i64 n, sv])) (hgrow3 : (W4.alloc (.cells #[.int .i64 k, .int .i64 n, sv] 33)).grownBy w3 v.ownBlock)
    (hat3 : v3.ownBlock = v.ownBlock ∨ v3.ownBlock = some (W4.alloc (.cells #[.int .i64 k, .int .i64 n, sv] 33)).heap.size) : LP R G d ws0 m0 w ws' m' v3 w3 := by
  have H3 := (Below.refl W4.heap.size W4).alloc (Nat.le_refl _) (.cells #[.int .i64 k, .int .i64 n, sv] 33)
  have hs4 := hg4.size
  have hnew := OwnF.snoc (owns_below hol H3) (rows_below hrl H3) hin hown3 hgrow3 hat3
  have hgn : w.grownBy w3 (some R) := by
    have hg3 := hg4.trans (grownBy_below H3 (some R))
    refine ⟨hgrow3.os.trans hg3.os, hgrow3.tape.trans hg3.tape, hgrow3.output.trans hg3.output, Nat.le_trans hg3.size hgrow3.size, fun j hj hne => (hgrow3.block j (by simp; omega) (fun e => ?_)).trans (hg3.block j hj hne)⟩
    have := own_row hol j e.symm
    omega
  have hob : ∀ j, j < w.heap.size → w3.heap[j]? = W4.heap[j]? := fun j hj => (hgrow3.block j (by simp; omega) (fun e => by have := own_row hol j e.symm; omega)).trans (H3.block j (by omega))
  exact ⟨⟨_, hnew, by rw [Fo.len_app]; simp only [Fo.len]; omega, hpl⟩, hgn, hr4.keep (hob R hRl) (hob G hGl) (by have := hgrow3.size; simp at this; omega), hww, hm⟩
/-- The op's box, and the reader. -/
structure Bx (R G b : Nat) (ws : List (List UInt8)) (m : Nat) (k n : Int) (sv : Value) (wr W : World) : Prop where
  rp : RP W R G ws m
  blk : BlkO W b k n sv
  neR : b ≠ R
  neG : b ≠ G
  gr : wr.grownBy W (some R)
  sz : wr.heap.size ≤ b
theorem BlkO.put1 {W : World} {b : Nat} {k n : Int} {v : Value} (h : BlkO W b k n v) (n' : Int) : BlkO (W.setCell ⟨b, 1, none⟩ (.int .i64 n')) b k n' v := by
  unfold BlkO at h ⊢
  simp only [World.setCell, Array.getElem?_modify, h]
  simp
theorem BlkO.put0 {W : World} {b : Nat} {k n : Int} {v : Value} (h : BlkO W b k n v) (k' : Int) : BlkO (W.setCell ⟨b, 0, none⟩ (.int .i64 k')) b k' n v := by
  unfold BlkO at h ⊢
  simp only [World.setCell, Array.getElem?_modify, h]
  simp
theorem Bx.new {R G m : Nat} {ws : List (List UInt8)} {wr W : World} (hr : RP W R G ws m) (hg : wr.grownBy W (some R)) (k n : Int) (sv : Value) : Bx R G W.heap.size ws m k n sv wr (W.alloc (.cells #[.int .i64 k, .int .i64 n, sv] 33)) :=
  ⟨hr.below ((Below.refl _ _).alloc (Nat.le_refl _) _), BlkO.new _ _ _ _, by have := hr.lt; omega, by have := hr.2.1; omega, galloc hg _, hg.size⟩
theorem Bx.set1 {R G b m : Nat} {ws : List (List UInt8)} {k n : Int} {sv : Value} {wr W : World} (h : Bx R G b ws m k n sv wr W) (n' : Int) : Bx R G b ws m k n' sv wr (W.setCell ⟨b, 1, none⟩ (.int .i64 n')) :=
  ⟨h.rp.set h.neR h.neG _, h.blk.put1 n', h.neR, h.neG, gset h.gr h.sz _, h.sz⟩
theorem Bx.set0 {R G b m : Nat} {ws : List (List UInt8)} {k n : Int} {sv : Value} {wr W : World} (h : Bx R G b ws m k n sv wr W) (k' : Int) : Bx R G b ws m k' n sv wr (W.setCell ⟨b, 0, none⟩ (.int .i64 k')) :=
  ⟨h.rp.set h.neR h.neG _, h.blk.put0 k', h.neR, h.neG, gset h.gr h.sz _, h.sz⟩
theorem Bx.set2 {R G b m : Nat} {ws : List (List UInt8)} {k n : Int} {sv : Value} {wr W : World} (h : Bx R G b ws m k n sv wr W) (sv' : Value) : Bx R G b ws m k n sv' wr (W.setCell ⟨b, 2, none⟩ sv') :=
  ⟨h.rp.set h.neR h.neG _, h.blk.put2 sv', h.neR, h.neG, gset h.gr h.sz _, h.sz⟩
theorem Bx.setM {R G b m : Nat} {ws : List (List UInt8)} {k n : Int} {sv : Value} {wr W : World} (h : Bx R G b ws m k n sv wr W) : Bx R G b ws (m + 1) k n sv wr (W.setCell ⟨R, 1, none⟩ (.int .i64 ((m : Int) + 1))) := by
  have := rp_many h.rp (m + 1)
  rw [show ((m + 1 : Nat) : Int) = (m : Int) + 1 by omega] at this
  exact ⟨this, h.blk.set h.neR _, h.neR, h.neG, gsetR h.gr _, h.sz⟩
theorem Bx.call {R G b m : Nat} {ws : List (List UInt8)} {k n : Int} {sv : Value} {wr W W' : World} (h : Bx R G b ws m k n sv wr W) (hb : Below W.heap.size W W') : Bx R G b ws m k n sv wr W' :=
  ⟨h.rp.below hb, h.blk.step hb, h.neR, h.neG, gbel h.gr hb, h.sz⟩
theorem Bx.deep {R G b m m' : Nat} {ws ws' : List (List UInt8)} {k n : Int} {sv : Value} {wr W W' : World} (h : Bx R G b ws m k n sv wr W) (hg : W.grownBy W' (some R)) (hr : RP W' R G ws' m') : Bx R G b ws' m' k n sv wr W' :=
  ⟨hr, h.blk.grown hg h.neR, h.neR, h.neG, h.gr.trans hg, h.sz⟩
theorem Bx.pop {R G b m : Nat} {x : List UInt8} {ws : List (List UInt8)} {k n : Int} {sv : Value} {wr W : World} (h : Bx R G b (x :: ws) m k n sv wr W) : ∃ o cap, W.cell? ⟨R, 0, none⟩ = some (.slice (some ⟨G, o, none⟩) (ws.length + 1) cap) ∧ W.cell? ⟨G, o, none⟩ = some (.string (ba x)) ∧ ws.length + 1 ≤ cap ∧ W.frozen? ⟨R, 0, none⟩ = false ∧
    ∀ a' cap', (ws = [] ∨ a' = some ⟨G, o + 1, none⟩) → ws.length ≤ cap' → Bx R G b ws m k n sv wr (W.setCell ⟨R, 0, none⟩ (.slice a' ws.length cap')) := by
  obtain ⟨o, cap, c0, c1, hc, f0, hp⟩ := h.rp.pop
  refine ⟨o, cap, c0, c1, hc, f0, fun a' cap' h1 h2 => ?_⟩
  obtain ⟨hg, hr⟩ := hp a' cap' h1 h2
  exact h.deep hg hr
theorem Bx.own {R G b m lo : Nat} {ws : List (List UInt8)} {k n : Int} {sv v : Value} {acc : Fo} {wr W : World} (h : Bx R G b ws m k n sv wr W) (hR : R < lo) (ho : OwnF lo wr v acc) : OwnF lo W v acc :=
  ho.keep fun j hj hlt => h.gr.block j hlt (fun e => by injection e; omega)
/-- The cells that are read and written. -/
theorem Bx.cells {R G b m : Nat} {ws : List (List UInt8)} {k n : Int} {sv : Value} {wr W : World} (h : Bx R G b ws m k n sv wr W) : (W.cell? ⟨R, 1, none⟩ = some (.int .i64 m) ∧ W.frozen? ⟨R, 1, none⟩ = false) ∧ (W.cell? ⟨b, 0, none⟩ = some (.int .i64 k) ∧ W.cell? ⟨b, 1, none⟩ = some (.int .i64 n) ∧ W.cell? ⟨b, 2, none⟩ = some sv) ∧ (W.frozen? ⟨b, 0, none⟩ = false ∧ W.frozen? ⟨b, 1, none⟩ = false ∧ W.frozen? ⟨b, 2, none⟩ = false) := ⟨h.rp.cell1, h.blk.cells, h.blk.free⟩
theorem opW_numR {l : List UInt8} {n : Int} (h : numOf l = some n) : opW l = some (1, n) := by unfold opW; rw [num_no_kind h, h]; rfl
theorem new3s {w : World} {s : Nat} (h : w.heap.size = s) (x y z : Value) (T : TypeId) : (w.alloc (.cells #[x, y, z] T)).heap[s]? = some (.cells #[x, y, z] T (0, 0)) := by subst h; exact heap_alloc_new w _
/-- Which kind a word is of, by the page's table. -/
theorem kind_foundR {x : List UInt8} {k : Nat} (hk : k < 29) (h : tab.getD (k + 2) [] = x) (hn : numOf x = none) : opW x = some ((k : Int) + 2, 0) := by
  have := kindOf_tab ⟨k + 2, by omega⟩ (by show 2 ≤ k + 2; omega)
  simp only at this
  rw [h] at this
  unfold opW
  rw [this]
  simp
theorem kind_noneR {x : List UInt8} (hx : x ≠ []) (h : ∀ j, j < 29 → tab.getD (j + 2) [] ≠ x) (hn : numOf x = none) : opW x = none := by
  unfold opW
  cases hk : kindOf x with
  | none => rw [hn]; rfl
  | some k =>
    obtain ⟨h1, h2⟩ := kindOf_lt hk
    rcases k with _ | _ | k
    · exact absurd h2.symm hx
    · exact absurd h2.symm hx
    · exact absurd h2 (h k (by omega))
end Go.Proofs.Ytkmnpaiippgnmab
