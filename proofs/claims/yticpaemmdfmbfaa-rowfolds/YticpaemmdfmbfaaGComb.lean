/- What cells come to, and that they may be. -/
import Derived.Test.YticpaemmdfmbfaaGRJoin
import Derived.Test.YticpaemmdfmbfaaGMayM
import Derived.Test.YticpaemmdfmbfaaGTkF
import Derived.Test.YticpaemmdfmbfaaGBy
namespace Go.Proofs.Yticpaemmdfmbfaa
open Go.RowKit
set_option linter.unusedVariables false
set_option maxRecDepth 100000

theorem rjoin_any (agg bound : Int) (va vb : Value) (a b : Cl) (w : World) (ha : CS w va a) (hb : CS w vb b) (wa : WfC a) (wb : WfC b) (hla : a.2.length ≤ 50000) (hlb : b.2.length ≤ 50000) (ca : chk agg bound a = true) (cb : chk agg bound b = true) :
    Calls Try.prog 55 #[.int .i64 agg, .int .i64 bound, va, vb] w (CellR w (joinR agg bound a b).1 (joinR agg bound a b).2) := by
  obtain ⟨hw, hma⟩ := chk_may ca
  obtain ⟨-, hmb⟩ := chk_may cb
  obtain ⟨g1, g6, gb, gb32, gb1⟩ := wayC_bd hw
  obtain ⟨bd, rfl⟩ := Int.eq_ofNat_of_zero_le gb
  rw [show joinR agg (bd : Int) a b = joinC agg bd a b by unfold joinR; rw [ca, cb]; simp]
  rw [Int.toNat_natCast] at hma hmb
  by_cases h6 : agg = 6
  · subst h6
    rw [show joinC 6 bd a b = joinS bd a.2 b.2 by unfold joinC joinS; rw [if_pos rfl]]
    exact rjoinS_any bd va vb a b w ha hb (may_rise hma).2.1 (may_rise hmb).2.1 hla hlb
  · rw [show joinC agg bd a b = ((nF agg a.1 b.1, []), 0) by unfold joinC; rw [if_neg h6]]
    exact rjoinN_any agg bd va vb a b w ha hb wa wb g1 (by omega) (may_num h6 hma).2 (may_num h6 hmb).2
theorem num_zero : Num64 0 := by unfold Num64; decide
theorem chk_one {agg bound : Int} (v : Int) (hw : wayC agg bound = true) : chk agg bound (oneC agg v) = true := by
  obtain ⟨g1, g6, gb, gb32, gb1⟩ := wayC_bd hw
  unfold chk
  rw [hw, Bool.true_and]
  by_cases h6 : agg = 6
  · subst h6
    rw [show oneC 6 v = (0, [v]) from rfl, may6]
    have : Rise [v] := by simp [Rise]
    simp only [List.length_singleton, decide_eq_true this, Bool.and_true]
    simp
    have := gb1 rfl
    omega
  · unfold oneC n1 mayC
    rw [if_neg h6, if_neg h6]
    simp
    by_cases h2 : agg = 2
    · exact .inr (by rw [if_pos h2]; decide)
    · exact .inl h2
theorem wf_one {agg v : Int} (h : Num64 v) : WfC (oneC agg v) ∧ (oneC agg v).2.length ≤ 32 := by
  unfold oneC
  by_cases h6 : agg = 6
  · rw [if_pos h6]
    exact ⟨⟨num_zero, fun x hx => by simp at hx; subst hx; exact h⟩, by simp⟩
  · rw [if_neg h6]
    refine ⟨⟨?_, fun x hx => by simp at hx⟩, by simp⟩
    unfold n1
    show Num64 (if agg = 2 then 1 else v)
    split
    · unfold Num64; decide
    · exact h
theorem joinR_of {agg bound : Int} {a b : Cl} (ca : chk agg bound a = true) (cb : chk agg bound b = true) : joinR agg bound a b = joinC agg bound.toNat a b := by unfold joinR; rw [ca, cb]; simp
/-- What two are together may be, where there is no error. -/
theorem chk_join {agg bound : Int} {a b : Cl} (ca : chk agg bound a = true) (cb : chk agg bound b = true) (wa : WfC a) (wb : WfC b) :
    ((joinR agg bound a b).2 = 0 → chk agg bound (joinR agg bound a b).1 = true) ∧ WfC (joinR agg bound a b).1 ∧ (joinR agg bound a b).1.2.length ≤ 32 ∧ ((joinR agg bound a b).2 = 0 ∨ (joinR agg bound a b).2 = 11) := by
  rw [joinR_of ca cb]
  obtain ⟨hw, hma⟩ := chk_may ca
  obtain ⟨-, hmb⟩ := chk_may cb
  obtain ⟨g1, g6, gb, gb32, gb1⟩ := wayC_bd hw
  unfold chk
  rw [hw]
  simp only [Bool.true_and]
  unfold joinC
  by_cases h6 : agg = 6
  · subst h6
    rw [if_pos rfl]
    have hb := (may_rise hmb).2.1
    by_cases hle : (uni a.2 b.2).length ≤ bound.toNat
    · rw [if_pos hle]
      refine ⟨fun _ => ?_, ⟨num_zero, fun v hv => ?_⟩, by show (uni a.2 b.2).length ≤ 32; omega, .inl rfl⟩
      · rw [may6]
        simp only [decide_eq_true (rise_uni a.2 hb), decide_eq_true hle, Bool.and_true]
        rfl
      · have hv' : v ∈ uni a.2 b.2 := hv
        rw [mem_uni] at hv'
        rcases hv' with h | h
        · exact wa.2 v h
        · exact wb.2 v h
    · rw [if_neg hle]
      exact ⟨fun h => by simp at h, ⟨num_zero, fun v hv => by simp at hv⟩, by simp, .inr rfl⟩
  · rw [if_neg h6]
    have pa := (may_num h6 hma).2
    have pb := (may_num h6 hmb).2
    refine ⟨fun _ => ?_, ⟨num_nF wa.1 wb.1 pa pb, fun v hv => by simp at hv⟩, by simp, .inl rfl⟩
    unfold mayC
    rw [if_neg h6]
    have := nF_P agg a.1 b.1 pa pb
    simp
    by_cases h2 : agg = 2
    · exact .inr (this h2)
    · exact .inl h2
theorem app_empty (s : ByteArray) : s ++ (⟨#[]⟩ : ByteArray) = s := by
  apply ba_ext
  simp [ByteArray.data_append]
/-- The bytes of a cell that may be are taken as it. -/
theorem take_of_bytes {agg bound : Int} {c : Cl} (hc : chk agg bound c = true) (hw : WfC c) (x : ByteArray) : takeR agg bound (cBytes agg c ++ x) = (c, ((cBytes agg c).size : Int), 0) := by
  obtain ⟨h1, h2⟩ := chk_may hc
  obtain ⟨g1, g6, gb, gb32, gb1⟩ := wayC_bd h1
  unfold takeR
  rw [h1]
  simp only [if_true]
  exact cTake_bytes agg bound.toNat c x h2 (by omega) hw.1 hw.2
theorem cBytes_len {agg : Int} {c : Cl} : (cBytes agg c).size ≤ 10 + 10 * c.2.length := by
  unfold cBytes
  split
  · rw [ByteArray.size_append]
    have := bytes_len (c.2.length : Int)
    have := catB_len c.2
    omega
  · have := bytes_len c.1
    omega
theorem bytesR_of {agg bound : Int} {c : Cl} (hc : chk agg bound c = true) : bytesR agg bound c = (cBytes agg c, 0) := by unfold bytesR; rw [hc]; simp
theorem oneR_of {agg bound : Int} (v : Int) (hw : wayC agg bound = true) : oneR agg bound v = (oneC agg v, 0) := by unfold oneR; rw [hw]; simp
theorem chk_zero {agg bound : Int} (hw : wayC agg bound = true) : chk agg bound (0, []) = true := by
  unfold chk
  rw [hw, Bool.true_and]
  by_cases h6 : agg = 6
  · subst h6
    rw [may6]
    have : Rise ([] : List Int) := Rise.nil
    simp [this]
  · unfold mayC
    rw [if_neg h6]
    simp
end Go.Proofs.Yticpaemmdfmbfaa
