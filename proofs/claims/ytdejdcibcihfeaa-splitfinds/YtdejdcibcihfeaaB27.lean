/- The page's own: Find, Next, Recs; splits compared; numbers written over. -/
import Derived.Test.YtdejdcibcihfeaaB25
import Derived.Test.YtdejdcibcihfeaaB26
namespace Go.Proofs.Ytdejdcibcihfeaa
open Go.RowKit
set_option linter.unusedVariables false
set_option maxRecDepth 100000

/-- A place; -1: there is none. -/
def placeC (l : List Sp) (id : Int) : Int := match findC l id with
  | none => -1
  | some k => (k : Int)
set_option maxHeartbeats 400000 in
theorem rfind_any (c : Cfg) (v : Value) (id : Int) (w : World) (h : InC w c v) :
    Calls Try.prog 9 #[cfgV c v, .int .i64 id] w fun e w' => e = .returned (.int .i64 (placeC c.splits id)) ∧ Below w.heap.size w w' := by
  have hlen := h.len
  obtain ⟨va, vc, rfl, hsh⟩ := h.ps
  clear h
  obtain ⟨W0, hW0⟩ : ∃ W0 : World, W0 = w.alloc (.cells #[.int .i64 c.sites, .slice va c.splits.length vc, .int .i64 c.again, .int .i64 c.over] 24) := ⟨_, rfl⟩
  have hb0 : Below w.heap.size w W0 := by rw [hW0]; exact (Below.refl _ _).alloc (Nat.le_refl _) _
  have B0 : BlkF W0 w.heap.size (.int .i64 c.sites) (.slice va c.splits.length vc) (.int .i64 c.again) (.int .i64 c.over) := by rw [hW0]; exact BlkF.new w _ _ _ _
  obtain ⟨r0, r1, r2, r3⟩ := B0.cells
  have HW := hidM hW0.symm
  have HB0 := hidM hb0
  clear hW0 hb0 B0
  go_enter Try.func9, Try.ntmps9
  go_wp2
  rw [HW.out]
  go_loop [5] (fun i => ∃ k : Nat, k ≤ c.splits.length ∧ i = .int .i64 k ∧ Hid (∀ x ∈ c.splits.take k, x.1 ≠ id)) (fun i => c.splits.length - (intOf i).toNat)
  case atStart => exact ⟨0, by omega, rfl, fun x hx => by simp at hx⟩
  case round =>
    obtain ⟨k, hk, rfl, HO⟩ := hrel
    by_cases hlt : k < c.splits.length
    · obtain ⟨⟨si, st, sl⟩, hy⟩ := getSome hlt
      rcases hsh with hnil | ⟨b, off, rfl, hb, hat⟩
      · rw [hnil] at hlt; simp at hlt
      obtain ⟨c0, -⟩ := (hat.below HB0.out hb) k _ hy
      simp only at c0
      have hki0 : (0 : Int) ≤ (k : Int) := by omega
      have hki : (k : Int) < (c.splits.length : Int) := by omega
      by_cases he : si = id
      · have HF := hidM (show placeC c.splits id = (k : Int) from by unfold placeC; rw [findC_at hy he HO.out])
        have hbe : (si == id) = true := by simpa using he
        clear hat hy HO he
        go_wp2
        go_ret
        exact ⟨by rw [HF.out]; rfl, HB0.out⟩
      · have hbe : (si == id) = false := by simpa using he
        have HO2 := hidM (show ∀ x ∈ c.splits.take (k + 1), x.1 ≠ id from fun x hx => by
          rw [List.take_add_one, hy] at hx
          rcases List.mem_append.1 hx with hx | hx
          · exact HO.out x hx
          · simp at hx; subst hx; exact he)
        clear hat hy HO
        go_wp2
        go_round
        case rel => exact ⟨k + 1, by omega, by go_num, HO2.out⟩
        case measure => simp [intOf]; omega
    · have HF := hidM (show placeC c.splits id = -1 from by unfold placeC; rw [findC_none (fun x hx => HO.out x (by rw [List.take_of_length_le (by omega)]; exact hx))])
      have hlt' : ¬ (k : Int) < (c.splits.length : Int) := by omega
      go_wp2
      go_ret
      exact ⟨by rw [HF.out]; rfl, HB0.out⟩
set_option maxHeartbeats 400000 in
theorem rnext_any (id : Int) (t : ByteArray) (l : List Int) (a : Option Addr) (cap : Nat) (site : Int) (w : World) (h : NS w (.slice a l.length cap) l) (hl : 0 < l.length) (hl2 : l.length ≤ 17592186043904) :
    Calls Try.prog 15 #[.agg #[.int .i64 id, .string t, .slice a l.length cap], .int .i64 site] w fun e w' => e = .returned (.int .i64 (nextL l site)) ∧ Below w.heap.size w w' := by
  obtain ⟨a', cap', e, hsh⟩ := h
  have ea : a = a' := by injection e
  clear e
  subst ea
  obtain ⟨W0, hW0⟩ : ∃ W0 : World, W0 = w.alloc (.cells #[.int .i64 id, .string t, .slice a l.length cap] 35) := ⟨_, rfl⟩
  have hb0 : Below w.heap.size w W0 := by rw [hW0]; exact (Below.refl _ _).alloc (Nat.le_refl _) _
  have B0 : BlkP W0 w.heap.size (.int .i64 id) (.string t) (.slice a l.length cap) := by rw [hW0]; exact BlkP.new w _ _ _
  obtain ⟨r0, r1, r2⟩ := B0.cells
  have HW := hidM hW0.symm
  have HB0 := hidM hb0
  rcases hsh with hnil | ⟨b, off, rfl, hb, hat⟩
  · rw [hnil] at hl; simp at hl
  have hat0 := hat.below hb0 hb
  have hl0 : (0 : Int) < (l.length : Int) := by omega
  clear hW0 hb0 B0 hat
  go_enter Try.func15, Try.ntmps15
  go_wp2
  rw [HW.out]
  go_loop [5] (fun i => ∃ k : Nat, k ≤ l.length ∧ i = .int .i64 k ∧ Hid (∀ y ∈ l.take k, ¬ site < y)) (fun i => l.length - (intOf i).toNat)
  case atStart => exact ⟨0, by omega, rfl, fun x hx => by simp at hx⟩
  case round =>
    obtain ⟨k, hk, rfl, HO⟩ := hrel
    by_cases hlt : k < l.length
    · obtain ⟨x, hx⟩ := getSome hlt
      have c0 := hat0 k x hx
      have hki0 : (0 : Int) ≤ (k : Int) := by omega
      have hki : (k : Int) < (l.length : Int) := by omega
      by_cases hs : site < x
      · have HF := hidM (nextL_hit hx hs HO.out)
        clear hat0 hx HO
        go_wp2
        go_ret
        exact ⟨by rw [HF.out]; rfl, HB0.out⟩
      · have HO2 := hidM (show ∀ y ∈ l.take (k + 1), ¬ site < y from fun y hy => by
          rw [List.take_add_one, hx] at hy
          rcases List.mem_append.1 hy with hy | hy
          · exact HO.out y hy
          · simp at hy; subst hy; exact hs)
        clear hat0 hx HO
        go_wp2
        go_round
        case rel => exact ⟨k + 1, by omega, by go_num, HO2.out⟩
        case measure => simp [intOf]; omega
    · obtain ⟨x, hx⟩ := getSome (l := l) (i := 0) hl
      have c0 := hat0 0 x hx
      simp only [Nat.add_zero] at c0
      have HF := hidM (nextL_miss (site := site) (fun y hy => HO.out y (by rw [List.take_of_length_le (by omega)]; exact hy)) hx)
      have hlt' : ¬ (k : Int) < (l.length : Int) := by omega
      clear hat0 hx HO
      go_wp2
      go_ret
      exact ⟨by rw [HF.out]; rfl, HB0.out⟩
theorem recs11_any (id : Int) (t : ByteArray) (v : Value) (w : World) (ht : t.size ≤ 140737488351232) :
    Calls Try.prog 17 #[.agg #[.int .i64 id, .string t, v]] w fun e w' => (∃ v', e = .returned v' ∧ OwnR w' w.heap.size v' (allOf t).1) ∧ Below w.heap.size w w' := by
  obtain ⟨W0, hW0⟩ : ∃ W0 : World, W0 = w.alloc (.cells #[.int .i64 id, .string t, v] 35) := ⟨_, rfl⟩
  have hb0 : Below w.heap.size w W0 := by rw [hW0]; exact (Below.refl _ _).alloc (Nat.le_refl _) _
  have HW := hidM hW0.symm
  have HB0 := hidM hb0
  have HAL := hidM (rall_any t W0 (by unfold maxLen; omega))
  clear hW0 hb0
  go_enter Try.func17, Try.ntmps17
  go_wp2_with (first | (go_at_call 21; rw [HW.out]; refine HAL.out.mono ?_; rintro e W1 ⟨v1, rfl, ho1, hb1⟩; have HO1 := hidM ho1; obtain ⟨a1, k1, rfl⟩ := ho1.shape; clear ho1))
  go_ret
  refine ⟨⟨_, rfl, ?_⟩, nxt HB0.out hb1⟩
  refine ⟨HO1.out.1, ?_⟩
  rcases HO1.out.2 with q | ⟨g, cap, cur, q1, q2, q3⟩
  · exact .inl q
  · exact .inr ⟨g, cap, cur, q1, by have := HB0.out.size; omega, q3⟩
set_option maxHeartbeats 400000 in
/-- The same numbers in two slices. -/
theorem eqnums_any (v u : Value) (l : List Int) (w : World) (h : NS w v l) (h' : NS w u l) (hl : l.length ≤ 17592186043904) :
    Calls Try.prog 28 #[v, u] w fun e w' => e = .returned (.bool true) ∧ Drawn w w' := by
  obtain ⟨a, cap, rfl, h⟩ := h
  obtain ⟨a', cap', rfl, h'⟩ := h'
  go_enter Try.func28, Try.ntmps28
  go_wp2
  go_loopw [5] (fun i wr => ∃ k : Nat, k ≤ l.length ∧ i = .int .i64 k ∧ Drawn w wr) (fun i _ => l.length - (intOf i).toNat)
  case atStart => exact ⟨0, by omega, rfl, Drawn.refl _⟩
  case round =>
    obtain ⟨k, hk, rfl, hD⟩ := hrel
    by_cases hlt : k < l.length
    · obtain ⟨y, hy⟩ := getSome hlt
      rcases h with rfl | ⟨b, off, rfl, hb, hat⟩
      · simp at hlt
      rcases h' with rfl | ⟨b', off', rfl, hb', hat'⟩
      · simp at hlt
      have c0 := hat.below (hD.below w.heap.size) hb k y hy
      have d0 := hat'.below (hD.below w.heap.size) hb' k y hy
      clear hat hat' hy
      have hk0 : (0 : Int) ≤ k := by omega
      have hkl : (k : Int) < l.length := by omega
      go_wp2
      go_quiet (fail)
      go_wp2
      go_roundw
      case rel => exact ⟨k + 1, by omega, by go_num, hD.step _⟩
      case measure => simp [intOf]; omega
    · have hlt' : ¬ (k : Int) < l.length := by omega
      go_wp2
      go_ret
      exact ⟨rfl, hD⟩
set_option maxHeartbeats 400000 in
/-- The same split twice. -/
theorem eqsplit_any (id : Int) (t : ByteArray) (l : List Int) (a a' : Option Addr) (cap cap' : Nat) (w : World) (h : NS w (.slice a l.length cap) l) (h' : NS w (.slice a' l.length cap') l) (hl : l.length ≤ 17592186043904) :
    Calls Try.prog 11 #[.agg #[.int .i64 id, .string t, .slice a l.length cap], .agg #[.int .i64 id, .string t, .slice a' l.length cap']] w fun e w' => e = .returned (.bool true) ∧ Below w.heap.size w w' := by
  obtain ⟨W0, hW0⟩ : ∃ W0 : World, W0 = (w.alloc (.cells #[.int .i64 id, .string t, .slice a l.length cap] 35)).alloc (.cells #[.int .i64 id, .string t, .slice a' l.length cap'] 35) := ⟨_, rfl⟩
  have st : ∀ (W : World) (o : Obj), Below W.heap.size W (W.alloc o) := fun W o => (Below.refl _ _).alloc (Nat.le_refl _) _
  have hb0 : Below w.heap.size w W0 := by rw [hW0]; exact nxt (st _ _) (st _ _)
  have HE := hidM (eqnums_any _ _ l W0 (h.below hb0) (h'.below hb0) hl)
  have HW := hidM hW0.symm
  have HB0 := hidM hb0
  clear hW0 hb0 h h' st
  go_enter Try.func11, Try.ntmps11
  go_wp2_with (first | (go_at_call 28; rw [HW.out]; refine HE.out.mono ?_; rintro e W1 ⟨rfl, hd1⟩))
  go_ret
  exact ⟨rfl, HB0.out.trans (hd1.below _)⟩
end Go.Proofs.Ytdejdcibcihfeaa
