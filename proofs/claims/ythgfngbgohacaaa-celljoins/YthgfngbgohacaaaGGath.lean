/- Numbers gathered from the front, from the end, or in halves. -/
import Derived.Test.YthgfngbgohacaaaLawGW
namespace Go.Proofs.Ythgfngbgohacaaa
open Go.RowKit
set_option linter.unusedVariables false
set_option maxRecDepth 100000

theorem Try.elemLongs : Try.prog.elem 23 = 2 := by kernel_rfl
/-- The first k of a slice of numbers. -/
theorem slice_to {w : World} {a : Option Addr} {n cap : Nat} {l : List Int} (h : NS w (.slice a n cap) l) (k : Nat) (hk : k ≤ l.length) (hc : l.length ≤ cap) :
    ∃ a', NS w (.slice a' k cap) (l.take k) ∧ ∀ W, (Instr.slice 23 (.slice a n cap) none (some (.int .i64 (k : Int))) none).run Try.prog W = .ok (.slice a' k cap) W := by
  have hz := Try.sizeOf2
  have he := Try.elemLongs
  have hr := fun W => run_slice_h (P := Try.prog) W 23 a n cap Try.underlying23 .i64 (k : Int) (by omega) (by omega)
  refine ⟨if cap = 0 then a else a.map (·.add (0 * 1)), ?_, fun W => ?_⟩
  · obtain ⟨a0, c0, e, h⟩ := h
    injection e with e1 e2 e3
    subst e1
    refine ⟨_, cap, by rw [List.length_take, Nat.min_eq_left hk], ?_⟩
    rcases h with rfl | ⟨g, o, rfl, hq, hat⟩
    · left; simp
    · right
      refine ⟨g, o, ?_, hq, fun i x hx => hat i x ?_⟩
      · split <;> simp [Addr.add]
      · have hi : i < k := by have := (List.getElem?_eq_some_iff.1 hx).1; rw [List.length_take] at this; omega
        rwa [List.getElem?_take_of_lt hi] at hx
  · rw [hr, he, hz]
    simp [sliced]
/-- Those behind the first k. -/
theorem slice_from {w : World} {a : Option Addr} {n cap : Nat} {l : List Int} (h : NS w (.slice a n cap) l) (k : Nat) (hk : k ≤ l.length) (hc : l.length ≤ cap) :
    ∃ a', NS w (.slice a' (l.length - k) (cap - k)) (l.drop k) ∧ ∀ W, (Instr.slice 23 (.slice a n cap) (some (.int .i64 (k : Int))) none none).run Try.prog W = .ok (.slice a' (l.length - k) (cap - k)) W := by
  have hz := Try.sizeOf2
  have he := Try.elemLongs
  have hn : n = l.length := by obtain ⟨a0, c0, e, _⟩ := h; injection e
  subst hn
  have hr := fun W => run_slice_l (P := Try.prog) W 23 a l.length cap Try.underlying23 .i64 (k : Int) (by omega) (by omega)
  refine ⟨if cap = k then a else a.map (·.add (k * 1)), ?_, fun W => ?_⟩
  · obtain ⟨a0, c0, e, h⟩ := h
    injection e with e1 e2 e3
    subst e1
    refine ⟨_, _, by rw [List.length_drop], ?_⟩
    rcases h with rfl | ⟨g, o, rfl, hq, hat⟩
    · left; simp
    · by_cases hck : cap = k
      · left; exact List.drop_of_length_le (by omega)
      · right
        refine ⟨g, o + k, by simp [hck, Addr.add], hq, fun i x hx => ?_⟩
        rw [List.getElem?_drop] at hx
        have := hat (k + i) x hx
        rwa [show o + (k + i) = o + k + i by omega] at this
  · rw [hr, he, hz]
    simp [sliced]
/-- What all numbers come to may be, where there is no error. -/
theorem allC_may {agg bound : Int} {l : List Int} (hw : wayC agg bound = true) (hl : l ≠ []) (hn : WfL l) : ((allC agg bound.toNat l).2 = 0 → chk agg bound (allC agg bound.toNat l).1 = true) ∧ WfC (allC agg bound.toNat l).1 ∧ (allC agg bound.toNat l).1.2.length ≤ 32 ∧ ((allC agg bound.toNat l).2 = 0 ∨ (allC agg bound.toNat l).2 = 11) ∧ ((allC agg bound.toNat l).2 ≠ 0 → (allC agg bound.toNat l).1 = (0, [])) := by
  obtain ⟨g1, g6, gb, gb32, gb1⟩ := wayC_bd hw
  unfold allC chk
  rw [hw, Bool.true_and]
  by_cases h6 : agg = 6
  · subst h6
    rw [if_pos rfl]
    by_cases hle : (once l).length ≤ bound.toNat
    · rw [if_pos hle]
      refine ⟨fun _ => ?_, ⟨num_zero, fun v hv => ?_⟩, by show (once l).length ≤ 32; omega, .inl rfl, fun h => by simp at h⟩
      · rw [may6]
        simp only [decide_eq_true (rise_once l), decide_eq_true hle, Bool.and_true]
        rfl
      · have hv' : v ∈ once l := hv
        rw [mem_once] at hv'
        exact hn v hv'
    · rw [if_neg hle]
      exact ⟨fun h => by simp at h, ⟨num_zero, fun v hv => by simp at hv⟩, by simp, .inr rfl, fun _ => rfl⟩
  · rw [if_neg h6]
    have hp : ∀ x ∈ l.map (n1 agg), nP agg x ∧ Num64 x := fun x hx => by
      obtain ⟨v, hv, rfl⟩ := List.mem_map.1 hx
      unfold n1
      by_cases h2 : agg = 2
      · rw [if_pos h2]; exact ⟨fun _ => by decide, by unfold Num64; decide⟩
      · rw [if_neg h2]; exact ⟨fun h => absurd h h2, hn v hv⟩
    have := fo1_P (P := fun x => nP agg x ∧ Num64 x) (f := nF agg) (fun x y hx hy => ⟨nF_P agg x y hx.1 hy.1, num_nF hx.2 hy.2 hx.1 hy.1⟩) (l.map (n1 agg)) (by simpa using hl) hp
    refine ⟨fun _ => ?_, ⟨this.2, fun v hv => by simp at hv⟩, by simp, .inl rfl, fun h => by simp at h⟩
    unfold mayC
    rw [if_neg h6]
    simp
    by_cases h2 : agg = 2
    · exact .inr (this.1 h2)
    · exact .inl h2
/-- Where the numbers are parted. -/
def atK (n : Nat) (way : Int) : Nat := if way = 0 then n - 1 else if way = 1 then 1 else n / 2
theorem atK_bd {n : Nat} {way : Int} (h : 2 ≤ n) : 1 ≤ atK n way ∧ atK n way < n := by unfold atK; split; omega; split <;> omega
/-- Numbers in memory, and room behind them. -/
structure GIn (w : World) (a : Option Addr) (cap : Nat) (l : List Int) : Prop where
  ns : NS w (.slice a l.length cap) l
  cap1 : l.length ≤ cap
  cap2 : cap ≤ 9223372036854775807
  ne : l ≠ []
  wf : WfL l
theorem GIn.below {w w' : World} {a : Option Addr} {cap : Nat} {l : List Int} (h : GIn w a cap l) (hb : Below w.heap.size w w') : GIn w' a cap l := ⟨h.ns.below hb, h.cap1, h.cap2, h.ne, h.wf⟩
/-- What was taken, in a block. -/
structure TB (W0 : World) (b : Nat) (c : Cl) (a : Option Addr) (cap : Nat) (W : World) : Prop where
  bel : Below W0.heap.size W0 W
  blk : BlkC W b c.1 (.slice a c.2.length cap)
  ns : NS W (.slice a c.2.length cap) c.2
theorem TB.next {W0 W W' : World} {b cap : Nat} {c : Cl} {a : Option Addr} (h : TB W0 b c a cap W) (hb : Below W.heap.size W W') : TB W0 b c a cap W' := ⟨nxt h.bel hb, h.blk.below hb, h.ns.below hb⟩
theorem TB.cs {W0 W : World} {b cap : Nat} {c : Cl} {a : Option Addr} (h : TB W0 b c a cap W) : CS W (.agg #[.int .i64 c.1, .slice a c.2.length cap]) c := ⟨a, cap, rfl, h.ns⟩
end Go.Proofs.Ythgfngbgohacaaa
