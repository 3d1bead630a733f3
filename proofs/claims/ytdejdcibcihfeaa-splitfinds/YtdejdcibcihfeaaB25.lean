/- The page's own: rising numbers, an ID, a number from 0 on. -/
import Derived.Test.YtdejdcibcihfeaaB13
import Derived.Test.YtdejdcibcihfeaaB24
namespace Go.Proofs.Ytdejdcibcihfeaa
open Go.RowKit
set_option linter.unusedVariables false
set_option maxRecDepth 100000

/-- The first k rise. -/
structure RisTo (lo hi : Int) (l : List Int) (k : Nat) : Prop where
  all : ∀ x ∈ l.take k, lo ≤ x ∧ x ≤ hi
  rise : (l.take k).Pairwise (· < ·)
theorem RisTo.start (lo hi : Int) (l : List Int) : RisTo lo hi l 0 := ⟨by simp, by simp⟩
theorem RisTo.step {lo hi : Int} {l : List Int} {k : Nat} {x : Int} (h : RisTo lo hi l k) (hx : l[k]? = some x) (h1 : lo ≤ x ∧ x ≤ hi) (h2 : ∀ m y, k = m + 1 → l[m]? = some y → y < x) : RisTo lo hi l (k + 1) := by
  have hstep : l.take (k + 1) = l.take k ++ [x] := by rw [List.take_add_one, hx]; rfl
  have hk := (List.getElem?_eq_some_iff.1 hx).1
  refine ⟨fun y hy => ?_, ?_⟩
  · rw [hstep] at hy
    rcases List.mem_append.1 hy with hy | hy
    · exact h.all y hy
    · simp at hy; subst hy; exact h1
  · rw [hstep, List.pairwise_append]
    refine ⟨h.rise, by simp, fun y hy z hz => ?_⟩
    simp at hz
    subst hz
    obtain ⟨i, hi, rfl⟩ := List.getElem_of_mem hy
    have hik : i < k := by simp at hi; omega
    have hm : k - 1 < (l.take k).length := by simp; omega
    have hlast := h2 (k - 1) (l.take k)[k - 1] (by omega) (by rw [← List.getElem?_take_of_lt (by omega : k - 1 < k)]; exact List.getElem?_eq_getElem hm)
    by_cases e : i = k - 1
    · subst e; exact hlast
    · have := (List.pairwise_iff_getElem.1 h.rise) i (k - 1) hi hm (by omega)
      omega
theorem RisTo.fin {lo hi : Int} {l : List Int} {k : Nat} (h : RisTo lo hi l k) (hk : l.length ≤ k) : risL lo hi l = true := by
  obtain ⟨h1, h2⟩ := h
  rw [List.take_of_length_le hk] at h1 h2
  unfold risL
  rw [decide_eq_true h2, List.all_eq_true.2 (fun x hx => decide_eq_true (h1 x hx))]
  rfl
theorem risL_bad {lo hi : Int} {l : List Int} {k : Nat} {x : Int} (hx : l[k]? = some x) (h : ¬ (lo ≤ x ∧ x ≤ hi)) : risL lo hi l = false := by
  cases e : risL lo hi l with
  | false => rfl
  | true => exact absurd ((risL_of e).1 x (List.mem_of_getElem? hx)) h
theorem risL_two {lo hi : Int} {l : List Int} {m k : Nat} {y x : Int} (hk : k = m + 1) (hy : l[m]? = some y) (hx : l[k]? = some x) (h : ¬ y < x) : risL lo hi l = false := by
  cases e : risL lo hi l with
  | false => rfl
  | true =>
    obtain ⟨h1, rfl⟩ := List.getElem?_eq_some_iff.1 hy
    obtain ⟨h2, rfl⟩ := List.getElem?_eq_some_iff.1 hx
    exact absurd ((List.pairwise_iff_getElem.1 (risL_of e).2) m k h1 h2 (by omega)) h
set_option maxHeartbeats 1600000 in
theorem rising_any (lo hi : Int) (v : Value) (l : List Int) (w : World) (h : NS w v l) (hl : l.length ≤ 17592186043904) :
    Calls Try.prog 23 #[v, .int .i64 lo, .int .i64 hi] w fun e w' => e = .returned (.bool (risL lo hi l)) ∧ Drawn w w' := by
  obtain ⟨va, vc, rfl, hsh⟩ := h
  go_enter Try.func23, Try.ntmps23
  go_wp2
  go_loopw [7] (fun i wr => ∃ k : Nat, k ≤ l.length ∧ i = .int .i64 k ∧ Hid (RisTo lo hi l k) ∧ Drawn w wr) (fun i _ => l.length - (intOf i).toNat)
  case atStart => exact ⟨0, by omega, rfl, RisTo.start _ _ _, Drawn.refl _⟩
  case round =>
    rename World => w0
    obtain ⟨k, hk, rfl, HO, hD⟩ := hrel
    by_cases hlt : k < l.length
    · obtain ⟨x, hx⟩ := getSome hlt
      rcases hsh with rfl | ⟨b, off, rfl, hb, hat⟩
      · simp at hlt
      have c0 := (hat.below (hD.below w.heap.size) hb) k x hx
      have hk0 : (0 : Int) ≤ (k : Int) := by omega
      have hki : (k : Int) < (l.length : Int) := by omega
      by_cases h1 : lo ≤ x
      · have d1 : decide (x < lo) = false := decide_eq_false (by omega)
        by_cases h2 : x ≤ hi
        · have d2 : decide (hi < x) = false := decide_eq_false (by omega)
          by_cases hz : k = 0
          · subst hz
            simp only [Nat.add_zero] at c0
            have hd1 : decide ((0 : Int) < ((0 : Nat) : Int)) = false := by decide
            have HO2 := hidM (HO.out.step hx ⟨h1, h2⟩ (fun m y hm => by omega))
            clear hat hx HO
            go_wp2
            go_quiet (fail)
            go_wp2
            go_roundw
            case rel => exact ⟨1, by omega, by go_num, HO2.out, hD.step _⟩
            case measure => simp [intOf]; omega
          · obtain ⟨m, hm⟩ : ∃ m, k = m + 1 := ⟨k - 1, by omega⟩
            obtain ⟨y, hy⟩ := getSome (l := l) (i := m) (by omega)
            have c1 := (hat.below (hD.below w.heap.size) hb) m y hy
            have hwr : IntKind.i64.wrap ((k : Int) - 1) = (m : Int) := by rw [IntKind.wrap_i64]; omega
            have hm0 : (0 : Int) ≤ (m : Int) := by omega
            have hmi : (m : Int) < (l.length : Int) := by omega
            have hd1 : decide ((0 : Int) < (k : Int)) = true := decide_eq_true (by omega)
            have hd2 : decide (0 < k) = true := decide_eq_true (by omega)
            by_cases h3 : y < x
            · have HO2 := hidM (HO.out.step hx ⟨h1, h2⟩ (fun m' y' hm' hy' => by
                obtain rfl : m' = m := by omega
                rw [hy] at hy'
                injection hy' with hy'
                subst hy'
                exact h3))
              have d3 : decide (x ≤ y) = false := decide_eq_false (by omega)
              clear hat hx hy HO hm
              go_wp2
              go_quiet (fail)
              go_wp2
              go_roundw
              case rel => exact ⟨k + 1, by omega, by go_num, HO2.out, hD.step _⟩
              case measure => simp [intOf]; omega
            · have HF := hidM (risL_two (lo := lo) (hi := hi) hm hy hx h3)
              have d3 : decide (x ≤ y) = true := decide_eq_true (by omega)
              clear hat hx hy HO hm
              go_wp2
              go_quiet (fail)
              go_wp2
              go_ret
              exact ⟨by rw [HF.out]; rfl, hD.step _⟩
        · have d2 : decide (hi < x) = true := decide_eq_true (by omega)
          have HF := hidM (risL_bad (lo := lo) (hi := hi) hx (by omega))
          clear hat hx HO
          go_wp2
          go_quiet (fail)
          go_wp2
          go_ret
          exact ⟨by rw [HF.out]; rfl, hD.step _⟩
      · have d1 : decide (x < lo) = true := decide_eq_true (by omega)
        have HF := hidM (risL_bad (lo := lo) (hi := hi) hx (by omega))
        clear hat hx HO
        go_wp2
        go_quiet (fail)
        go_wp2
        go_ret
        exact ⟨by rw [HF.out]; rfl, hD.step _⟩
    · have HF := hidM (HO.out.fin (by omega))
      have hlt' : l.length ≤ k := by omega
      go_wp2
      go_ret
      exact ⟨by rw [HF.out]; rfl, hD⟩
theorem isID_any (n : Int) (w : World) : Calls Try.prog 22 #[.int .i64 n] w fun e w' => e = .returned (.bool (decide (1 ≤ n ∧ n ≤ 1048576))) ∧ w' = w := by
  by_cases h1 : 1 ≤ n
  · by_cases h2 : n ≤ 1048576
    · rw [decide_eq_true (show 1 ≤ n ∧ n ≤ 1048576 from ⟨h1, h2⟩)]
      go_enter Try.func22, Try.ntmps22
      go_wp2
      go_ret
      exact ⟨rfl, rfl⟩
    · rw [decide_eq_false (show ¬ (1 ≤ n ∧ n ≤ 1048576) from fun e => h2 e.2)]
      go_enter Try.func22, Try.ntmps22
      go_wp2
      go_ret
      exact ⟨rfl, rfl⟩
  · rw [decide_eq_false (show ¬ (1 ≤ n ∧ n ≤ 1048576) from fun e => h1 e.1)]
    go_enter Try.func22, Try.ntmps22
    go_wp2
    go_ret
    exact ⟨rfl, rfl⟩
theorem isNum_any (n m : Int) (w : World) : Calls Try.prog 14 #[.int .i64 n, .int .i64 m] w fun e w' => e = .returned (.bool (decide (0 ≤ n ∧ n ≤ m))) ∧ w' = w := by
  by_cases h1 : 0 ≤ n
  · by_cases h2 : n ≤ m
    · rw [decide_eq_true (show 0 ≤ n ∧ n ≤ m from ⟨h1, h2⟩)]
      go_enter Try.func14, Try.ntmps14
      go_wp2
      go_ret
      exact ⟨rfl, rfl⟩
    · rw [decide_eq_false (show ¬ (0 ≤ n ∧ n ≤ m) from fun e => h2 e.2)]
      go_enter Try.func14, Try.ntmps14
      go_wp2
      go_ret
      exact ⟨rfl, rfl⟩
  · rw [decide_eq_false (show ¬ (0 ≤ n ∧ n ≤ m) from fun e => h1 e.1)]
    go_enter Try.func14, Try.ntmps14
    go_wp2
    go_ret
    exact ⟨rfl, rfl⟩
end Go.Proofs.Ytdejdcibcihfeaa
