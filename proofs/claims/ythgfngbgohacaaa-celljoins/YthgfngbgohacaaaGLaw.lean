/- The law's own: num, wakes, heavy. -/
import Derived.Test.YthgfngbgohacaaaGOpen
import Derived.Test.YthgfngbgohacaaaGJoinF
import Derived.Test.YthgfngbgohacaaaGEq
namespace Go.Proofs.Ythgfngbgohacaaa
open Go.RowKit
set_option linter.unusedVariables false
set_option maxRecDepth 100000

theorem num_any (n : Int) (w : World) : Calls Try.prog 13 #[.int .i64 n] w fun e w' => e = .returned (.int .i64 n) ∧ w' = w := by
  go_enter Try.func13, Try.ntmps13
  go_wp2
  go_ret
  exact ⟨rfl, rfl⟩
theorem wakes_any (w : World) : Calls Try.prog 20 #[] w (BoolR w true) := by
  have H1 := hidM (fun W => cone_any 2 0 5 W)
  have H2 := hidM (fun v W (h : CS W v (1, [])) => join_any 2 0 v v (1, []) (1, []) W h h ⟨by unfold Num64; decide, fun v hv => by simp at hv⟩ ⟨by unfold Num64; decide, fun v hv => by simp at hv⟩ (by simp) (by simp))
  have H3 := hidM num_any
  rw [show oneR 2 0 5 = ((1, []), 0) by decide +kernel] at H1
  rw [show joinR 2 0 (1, []) (1, []) = ((2, []), 0) by decide +kernel] at H2
  simp only at H1 H2
  go_enter Try.func20, Try.ntmps20
  go_wp2_with (first | (go_at_call 11; refine (H1.out _).mono ?_; rintro e W1 ⟨⟨v1, rfl, ho1⟩, hb1⟩; obtain ⟨a1, k1, rfl, hn1⟩ := ho1.cs; simp only [List.length_nil] at hn1 ⊢; have hb1' := hb1.alloc hb1.size (.cells #[.int .i64 1, .slice a1 0 k1] 29); have hc1 := hidM (hn1.below ((Below.refl _ _).alloc (Nat.le_refl _) (.cells #[.int .i64 1, .slice a1 0 k1] 29)))) | (go_at_call 18; refine (H2.out _ _ ⟨a1, k1, rfl, hc1.out⟩).mono ?_; rintro e W2 ⟨⟨v2, rfl, ho2⟩, hb2⟩; obtain ⟨a2, k2, rfl, hn2⟩ := ho2.cs; simp only [List.length_nil] at hn2 ⊢; have hb2' := nxt hb1' hb2; have hb3 := hidM (hb2'.alloc hb2'.size (.cells #[.int .i64 2, .slice a2 0 k2] 29))) | (go_at_call 13; refine (H3.out _ _).mono ?_; rintro e w' ⟨rfl, rfl⟩))
  go_ret
  exact ⟨rfl, hb3.out⟩
/-- What is asked of small things alone. -/
structure Small (L : List Cl) (l : List Int) (x : ByteArray) : Prop where
  hL : L.length ≤ 4000
  hc : ∀ c ∈ L, c.2.length ≤ 4000
  hl : l.length ≤ 4000
  hx : x.size ≤ 4000
def HvR (L : List Cl) (l : List Int) (x : ByteArray) (e : Ending) : Prop := ∃ r, e = .returned (.bool r) ∧ (r = false → Small L l x)
abbrev askV (agg bound : Int) (vl vv : Value) (x : ByteArray) : Value := .agg #[.int .i64 agg, .int .i64 bound, vl, vv, .string x]
abbrev askO (agg bound : Int) (vl vv : Value) (x : ByteArray) : Obj := .cells #[.int .i64 agg, .int .i64 bound, vl, vv, .string x] 25
set_option maxHeartbeats 800000 in
theorem heavy_any (agg bound : Int) (vl vv : Value) (x : ByteArray) (L : List Cl) (l : List Int) (w : World) (h : In9 w agg bound vl vv x L l) :
    Calls Try.prog 9 #[askV agg bound vl vv x] w fun e w' => HvR L l x e ∧ Below w.heap.size w w' := by
  have hb0 := (Below.refl w.heap.size w).alloc (Nat.le_refl _) (askO agg bound vl vv x)
  have hL := h.hL.1.below hb0
  have hLl := h.hL.2.1
  have hll := h.hl.2.1
  have hWf := hidM h.hL.2.2
  have hx : (x.size : Int) ≤ 140737488351232 := by have := h.hx; omega
  obtain ⟨av, cv, rfl, -⟩ := h.hl.1
  obtain ⟨aL, cL, rfl, hL⟩ := hL
  have HA := hidM (show ∀ i c, L[i]? = some c → ∃ p o a cap, aL = some ⟨p, o, none⟩ ∧ (w.alloc (askO agg bound (.slice aL L.length cL) (.slice av l.length cv) x)).cell? ⟨p, o + i * 2 + 1, none⟩ = some (.slice a c.2.length cap) from fun i c hc => by
    rcases hL with e | ⟨p, o, rfl, hp, hat⟩
    · rw [e] at hc; simp at hc
    · obtain ⟨_, a, cap, h2, _⟩ := hat i c hc
      exact ⟨p, o, a, cap, rfl, h2⟩)
  have HB := hidM hb0
  clear h hL hb0
  have hLi : (L.length : Int) ≤ 17592186043904 := by omega
  have hli : (l.length : Int) ≤ 17592186043904 := by omega
  clear hLl hll
  obtain ⟨n, hn⟩ : ∃ n, L.length = n := ⟨_, rfl⟩
  obtain ⟨m, hm⟩ : ∃ m, l.length = m := ⟨_, rfl⟩
  obtain ⟨y, hy⟩ : ∃ y, x.size = y := ⟨_, rfl⟩
  rw [hy] at hx
  have FIN := hidM (show ∀ z : Int, ((n : Int) + m + y ≤ z) → (∀ (i : Nat) (c : Cl), L[i]? = some c → (c.2.length : Int) ≤ z) → z ≤ 4000 → Small L l x from fun z h1 h2 h3 => ⟨by omega, fun c hc => by obtain ⟨i, hi⟩ := List.getElem?_of_mem hc; have := h2 i c hi; omega, by omega, by omega⟩)
  have HN := hidM hn
  rw [hn] at HA HB hLi ⊢
  rw [hm] at HA HB hli ⊢
  clear hn hm
  have HY := hidM hy
  go_enter Try.func9, Try.ntmps9
  go_wp2
  go_loop [3, 4] (fun s i => ∃ (k : Nat) (z : Int), k ≤ n ∧ i = .int .i64 (k : Int) ∧ s = .int .i64 z ∧ (n : Int) + m + y ≤ z ∧ z ≤ 400000000000000 ∧ Hid (∀ j c, j < k → L[j]? = some c → (c.2.length : Int) ≤ z)) (fun _ i => n - (intOf i).toNat)
  case atStart => exact ⟨0, _, by omega, rfl, rfl, by omega, by omega, fun j c hj => by omega⟩
  case round =>
    obtain ⟨k, z, hk, rfl, rfl, hz0, hz1, HK⟩ := hrel
    by_cases hlt : k < n
    · by_cases hz : z < 1048576
      · obtain ⟨c, hc⟩ := getSome (l := L) (i := k) (by have := HN.out; omega)
        obtain ⟨p, o, a, cap, rfl, h2⟩ := HA.out k c hc
        have hcl : (c.2.length : Int) ≤ 17592186043904 := by have := (hWf.out c (List.mem_of_getElem? hc)).2; omega
        have HK' := hidM (show ∀ j d, j < k + 1 → L[j]? = some d → (d.2.length : Int) ≤ z + c.2.length from fun j d hj hd => by
          by_cases e : j = k
          · subst e; rw [hc] at hd; injection hd with hd; subst hd; omega
          · have := HK.out j d (by omega) hd; omega)
        clear hc
        obtain ⟨q, hq⟩ : ∃ q, c.2.length = q := ⟨_, rfl⟩
        rw [hq] at HK' hcl h2
        clear hq
        have hk0 : (0 : Int) ≤ k := by omega
        have hkl : (k : Int) < n := by omega
        go_wp2
        go_round
        case rel => exact ⟨k + 1, z + q, by omega, by go_num, rfl, by omega, by omega, HK'⟩
        case measure => simp [intOf]; omega
      · have hz' : (1048576 : Int) ≤ z := by omega
        go_wp2
        go_ret
        refine ⟨⟨_, rfl, fun hr => ?_⟩, HB.out⟩
        simp at hr
        omega
    · obtain rfl : k = n := by omega
      go_wp2
      go_ret
      refine ⟨⟨_, rfl, fun hr => ?_⟩, HB.out⟩
      simp at hr
      exact FIN.out z hz0 (fun i c hc => HK.out i c (by have := (List.getElem?_eq_some_iff.1 hc).1; have := HN.out; omega) hc) hr
end Go.Proofs.Ythgfngbgohacaaa
