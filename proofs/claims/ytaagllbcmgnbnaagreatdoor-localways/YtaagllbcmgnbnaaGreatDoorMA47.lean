/- The page's own: do keys rise, may rows be. -/
import Derived.Test.YtaagllbcmgnbnaaGreatDoorMA13
import Derived.Test.YtaagllbcmgnbnaaGreatDoorMA32
import Derived.Test.YtaagllbcmgnbnaaGreatDoorMA26
namespace Go.Proofs.YtaagllbcmgnbnaaGreatDoor
open Go.RowKit
set_option linter.unusedVariables false

/-- Keys that may be, and rise; not too many. -/
def ordB (l : List Rw) : Bool := l.all (fun r => decide (r.1.2.size ≤ 64)) && decide (RiseK l) && decide (l.length ≤ 1536)
structure OrdTo (l : List Rw) (k : Nat) : Prop where
  all : ∀ r ∈ l.take k, r.1.2.size ≤ 64
  rise : RiseK (l.take k)
theorem OrdTo.start (l : List Rw) : OrdTo l 0 := ⟨by simp, by simp [RiseK]⟩
theorem OrdTo.step {l : List Rw} {k : Nat} {r : Rw} (h : OrdTo l k) (hr : l[k]? = some r) (h1 : r.1.2.size ≤ 64) (h2 : ∀ m x, k = m + 1 → l[m]? = some x → ltK x.1 r.1 = true) : OrdTo l (k + 1) := by
  have hstep : l.take (k + 1) = l.take k ++ [r] := by rw [List.take_add_one, hr]; rfl
  have hkl := (List.getElem?_eq_some_iff.1 hr).1
  refine ⟨fun x hx => ?_, ?_⟩
  · rw [hstep] at hx
    rcases List.mem_append.1 hx with hx | hx
    · exact h.all x hx
    · simp at hx; subst hx; exact h1
  · rw [hstep]
    refine rise_snocK h.rise fun x hx => ?_
    rw [List.getLast?_eq_getElem?, List.length_take, Nat.min_eq_left (by omega)] at hx
    have hk0 : 0 < k := by
      rcases Nat.eq_zero_or_pos k with e | e
      · rw [e] at hx; simp at hx
      · exact e
    rw [List.getElem?_take_of_lt (by omega)] at hx
    exact h2 (k - 1) x (by omega) hx
theorem OrdTo.fin {l : List Rw} {k : Nat} (h : OrdTo l k) (hk : l.length ≤ k) : ordB l = decide (l.length ≤ 1536) := by
  obtain ⟨h1, h2⟩ := h
  rw [List.take_of_length_le hk] at h1 h2
  unfold ordB
  rw [List.all_eq_true.2 (fun r hr => decide_eq_true (h1 r hr)), decide_eq_true h2]
  rfl
theorem ordB_key {l : List Rw} {k : Nat} {r : Rw} (hr : l[k]? = some r) (h : ¬ r.1.2.size ≤ 64) : ordB l = false := by
  have : l.all (fun r => decide (r.1.2.size ≤ 64)) = false := by
    cases he : l.all (fun r => decide (r.1.2.size ≤ 64)) with
    | false => rfl
    | true => rw [List.all_eq_true] at he; exact absurd (of_decide_eq_true (he r (List.mem_of_getElem? hr))) h
  unfold ordB
  rw [this, Bool.false_and, Bool.false_and]
theorem ordB_two {l : List Rw} {m k : Nat} {x r : Rw} (hk : k = m + 1) (hx : l[m]? = some x) (hr : l[k]? = some r) (h : ltK x.1 r.1 = false) : ordB l = false := by
  have : ¬ RiseK l := fun hri => by
    have := rise_at hri hx hr (by omega)
    rw [h] at this
    cases this
  unfold ordB
  rw [decide_eq_false this, Bool.and_false, Bool.false_and]
theorem okRows_ord {agg bound : Int} {l : List Rw} (hw : wayC agg bound = true) (hc : ∀ r ∈ l, mayC agg bound.toNat r.2 = true) : okRows agg bound l = ordB l := by
  have e : ∀ r ∈ l, chk agg bound r.2 = true := fun r hr => by unfold chk; rw [hw, hc r hr]; rfl
  unfold okRows ordB
  rw [hw, Bool.true_and, show l.all (fun r => decide (r.1.2.size ≤ 64) && chk agg bound r.2) = l.all (fun r => decide (r.1.2.size ≤ 64)) from by
    rw [Bool.eq_iff_iff, List.all_eq_true, List.all_eq_true]
    exact ⟨fun h r hr => by have := h r hr; rw [Bool.and_eq_true] at this; exact this.1, fun h r hr => by rw [h r hr, e r hr]; rfl⟩]
  cases l.all (fun r => decide (r.1.2.size ≤ 64)) <;> cases decide (RiseK l) <;> cases decide (l.length ≤ 1536) <;> rfl
theorem okRows_cell {agg bound : Int} {l : List Rw} {r : Rw} (hr : r ∈ l) (h : mayC agg bound.toNat r.2 = false) : okRows agg bound l = false := by
  cases he : okRows agg bound l with
  | false => rfl
  | true =>
    have := (okRows_parts he).2.2.1 r hr
    have h2 := this.2
    unfold chk at h2
    rw [h, Bool.and_false] at h2
    cases h2
theorem okRows_big {agg bound : Int} {l : List Rw} (h : ¬ l.length ≤ 1536) : okRows agg bound l = false := by
  cases he : okRows agg bound l with
  | false => rfl
  | true => exact absurd (okRows_parts he).2.1 h
end Go.Proofs.YtaagllbcmgnbnaaGreatDoor
namespace Go.Proofs.YtaagllbcmgnbnaaGreatDoor
open Go.RowKit
set_option linter.unusedVariables false
set_option maxRecDepth 100000

set_option maxHeartbeats 1600000 in
theorem rordered_any (v : Value) (l : List Rw) (w : World) (h : WS w v l) (hl : l.length ≤ 100000) : Calls Tryz.prog 56 #[v] w (BoolR w (ordB l)) := by
  obtain ⟨va, vc, rfl, hsh⟩ := h
  go_enter Tryz.func56, Tryz.ntmps56
  go_wp2
  go_loopw [3] (fun i wr => ∃ k : Nat, k ≤ l.length ∧ i = .int .i64 k ∧ Hid (OrdTo l k) ∧ Below w.heap.size w wr) (fun i _ => l.length - (intOf i).toNat)
  case atStart => exact ⟨0, by omega, rfl, OrdTo.start l, Below.refl _ _⟩
  case round =>
    rename World => w0
    obtain ⟨k, hk, rfl, HO, hbel⟩ := hrel
    have hsz := hbel.size
    by_cases hlt : k < l.length
    · obtain ⟨⟨⟨ya, yb⟩, yn, yl⟩, hy⟩ := getSome hlt
      rcases hsh with rfl | ⟨b, off, rfl, hb, hat⟩
      · simp at hlt
      have HBEL := hidM hbel
      obtain ⟨c0, c1, -⟩ := (hat.below hbel hb) k _ hy
      simp only at c0 c1
      have HK := hidM (fun W => rkey_any (ya, yb) W)
      have hk0 : (0 : Int) ≤ (k : Int) := by omega
      have hki : (k : Int) < (l.length : Int) := by omega
      by_cases hs : yb.size ≤ 64
      · rw [show decide ((ya, yb).2.size ≤ 64) = true from decide_eq_true hs] at HK
        by_cases hz : k = 0
        · subst hz
          simp only [Nat.zero_mul, Nat.add_zero] at c0 c1
          have HO2 := hidM (HO.out.step hy hs (fun m x hm => by omega))
          clear hat hbel hy hs HO
          go_wp2_with fail
          refine wp_region_any (by kernel_rfl) ?_
          change wpAny _ _ _ _ _ _ _ (World.drew _)
          refine wpAny_take (i := 0) (oi := { dst := some 10, op := Go.Op.move (Go.Operand.tmp 0), type := 37, pos := "thresherref9.go:140", after := #[], guard := none }) (v := ?v0y8) rfl (by kernel_rfl) (by kernel_rfl) (by kernel_rfl) (fun _ _ _ h => h) (Or.inl ⟨by rfl, ?h0y8⟩) ?r0y8
          case h0y8 => (intro W; go_simp; try with_reducible rfl)
          simp only [Act.put, List.setIfInBounds_toArray, List.set_cons_zero, List.set_cons_succ]
          refine wpAny_take (i := 1) (oi := { dst := some 11, op := Go.Op.move (Go.Operand.tmp 3), type := 3, pos := "thresherref9.go:140", after := #[], guard := none }) (v := ?v1y9) rfl (by kernel_rfl) (by kernel_rfl) (by kernel_rfl) (fun _ _ _ h => h) (Or.inl ⟨by rfl, ?h1y9⟩) ?r1y9
          case h1y9 => (intro W; go_simp; try with_reducible rfl)
          simp only [Act.put, List.setIfInBounds_toArray, List.set_cons_zero, List.set_cons_succ]
          refine wpAny_take (i := 2) (oi := { dst := some 12, op := Go.Op.indexAddr 37 (Go.Operand.tmp 10) (Go.Operand.tmp 11), type := 0, pos := "thresherref9.go:140", after := #[{ on := 0, ground := Go.Ground.data }, { on := 1, ground := Go.Ground.data }], guard := none }) (v := ?v2y10) rfl (by kernel_rfl) (by kernel_rfl) (by kernel_rfl) (fun _ _ _ h => h) (Or.inl ⟨by rfl, ?h2y10⟩) ?r2y10
          case h2y10 => (intro W; go_simp; try with_reducible rfl)
          simp only [Act.put, List.setIfInBounds_toArray, List.set_cons_zero, List.set_cons_succ]
          refine wpAny_take (i := 3) (oi := { dst := some 13, op := Go.Op.fieldAddr 82 (Go.Operand.tmp 12) 0, type := 0, pos := "thresherref9.go:140", after := #[{ on := 2, ground := Go.Ground.data }], guard := none }) (v := ?v3y11) rfl (by kernel_rfl) (by kernel_rfl) (by kernel_rfl) (fun _ _ _ h => h) (Or.inl ⟨by rfl, ?h3y11⟩) ?r3y11
          case h3y11 => (intro W; go_simp; try with_reducible rfl)
          simp only [Act.put, List.setIfInBounds_toArray, List.set_cons_zero, List.set_cons_succ]
          refine wpAny_ready (rs := [4]) (by kernel_rfl) (by simp) ?_
          refine AllReady.cons (o := { dst := some 14, op := Go.Op.load 66 (Go.Operand.tmp 13), type := 66, pos := "thresherref9.go:140", after := #[{ on := 3, ground := Go.Ground.data }], guard := none }) rfl (fun K hK => ?_) AllReady.nil
          go_simp
          refine hK _ _ ?_
          clear hK K
          try simp only [Act.put, List.setIfInBounds_toArray, List.set_cons_zero, List.set_cons_succ]
          refine wpAny_ready (rs := [5]) (by kernel_rfl) (by simp) ?_
          refine AllReady.cons (o := { dst := some 15, op := Go.Op.call { callee := Go.Callee.value (Go.Operand.func 41), args := #[Go.Operand.tmp 14], argTypes := #[66] }, type := 4, pos := "thresherref9.go:140", after := #[{ on := 4, ground := Go.Ground.data }], guard := none }) rfl (fun K hK => ?_) AllReady.nil
          go_simp
          refine (HK.out _).mono ?_
          rintro e W1 ⟨rfl, hb1⟩
          refine hK _ _ ?_
          clear hK K
          try simp only [Act.put, List.setIfInBounds_toArray, List.set_cons_zero, List.set_cons_succ]
          refine wpAny_take (i := 6) (oi := { dst := some 16, op := Go.Op.unOp Go.UnOp.not 4 (Go.Operand.tmp 15), type := 4, pos := "thresherref9.go:140", after := #[{ on := 5, ground := Go.Ground.data }], guard := none }) (v := ?v6y12) rfl (by kernel_rfl) (by kernel_rfl) (by kernel_rfl) (fun _ _ _ h => h) (Or.inl ⟨by rfl, ?h6y12⟩) ?r6y12
          case h6y12 => (intro W; go_simp; try with_reducible rfl)
          simp only [Act.put, List.setIfInBounds_toArray, List.set_cons_zero, List.set_cons_succ]
          refine wpAny_take (i := 7) (oi := { dst := some 17, op := Go.Op.move (Go.Operand.tmp 16), type := 4, pos := "thresherref9.go:140", after := #[{ on := 6, ground := Go.Ground.data }, { on := 5, ground := Go.Ground.chain }], guard := none }) (v := ?v7y13) rfl (by kernel_rfl) (by kernel_rfl) (by kernel_rfl) (fun _ _ _ h => h) (Or.inl ⟨by rfl, ?h7y13⟩) ?r7y13
          case h7y13 => (intro W; go_simp; try with_reducible rfl)
          simp only [Act.put, List.setIfInBounds_toArray, List.set_cons_zero, List.set_cons_succ]
          refine wpAny_take (i := 8) (oi := { dst := some 18, op := Go.Op.move (Go.Operand.tmp 3), type := 3, pos := "thresherref9.go:140", after := #[{ on := 7, ground := Go.Ground.guard }], guard := some (7, false) }) (v := ?v8y14) rfl (by kernel_rfl) (by kernel_rfl) (by kernel_rfl) (fun _ _ _ h => h) (Or.inl ⟨by rfl, ?h8y14⟩) ?r8y14
          case h8y14 => (intro W; go_simp; try with_reducible rfl)
          simp only [Act.put, List.setIfInBounds_toArray, List.set_cons_zero, List.set_cons_succ]
          refine wpAny_take (i := 9) (oi := { dst := some 19, op := Go.Op.binOp Go.BinOp.gtr 3 (Go.Operand.tmp 18) (Go.Operand.const (Go.Value.int Go.IntKind.i64 0)) 3, type := 4, pos := "thresherref9.go:140", after := #[{ on := 8, ground := Go.Ground.data }, { on := 7, ground := Go.Ground.guard }], guard := some (7, false) }) (v := ?v9y15) rfl (by kernel_rfl) (by kernel_rfl) (by kernel_rfl) (fun _ _ _ h => h) (Or.inl ⟨by rfl, ?h9y15⟩) ?r9y15
          case h9y15 => (intro W; go_simp; try with_reducible rfl)
          simp only [Act.put, List.setIfInBounds_toArray, List.set_cons_zero, List.set_cons_succ]
          refine wpAny_take (i := 10) (oi := { dst := some 20, op := Go.Op.move (Go.Operand.tmp 19), type := 4, pos := "thresherref9.go:140", after := #[{ on := 9, ground := Go.Ground.data }, { on := 7, ground := Go.Ground.chain }, { on := 7, ground := Go.Ground.guard }], guard := some (7, false) }) (v := ?v10y16) rfl (by kernel_rfl) (by kernel_rfl) (by kernel_rfl) (fun _ _ _ h => h) (Or.inl ⟨by rfl, ?h10y16⟩) ?r10y16
          case h10y16 => (intro W; go_simp; try with_reducible rfl)
          simp only [Act.put, List.setIfInBounds_toArray, List.set_cons_zero, List.set_cons_succ]
          refine wpAny_take (i := 11) (oi := { dst := some 21, op := Go.Op.move (Go.Operand.tmp 0), type := 37, pos := "thresherref9.go:140", after := #[{ on := 10, ground := Go.Ground.guard }], guard := some (10, true) }) (v := undef) rfl (by kernel_rfl) (by kernel_rfl) (by kernel_rfl) (fun _ _ _ h => h) (Or.inr ⟨by rfl, rfl⟩) ?_
          simp only [Act.put, List.setIfInBounds_toArray, List.set_cons_zero, List.set_cons_succ]
          refine wpAny_take (i := 12) (oi := { dst := some 22, op := Go.Op.move (Go.Operand.tmp 3), type := 3, pos := "thresherref9.go:140", after := #[{ on := 10, ground := Go.Ground.guard }], guard := some (10, true) }) (v := undef) rfl (by kernel_rfl) (by kernel_rfl) (by kernel_rfl) (fun _ _ _ h => h) (Or.inr ⟨by rfl, rfl⟩) ?_
          simp only [Act.put, List.setIfInBounds_toArray, List.set_cons_zero, List.set_cons_succ]
          refine wpAny_take (i := 13) (oi := { dst := some 23, op := Go.Op.binOp Go.BinOp.sub 3 (Go.Operand.tmp 22) (Go.Operand.const (Go.Value.int Go.IntKind.i64 1)) 3, type := 3, pos := "thresherref9.go:140", after := #[{ on := 12, ground := Go.Ground.data }, { on := 10, ground := Go.Ground.guard }], guard := some (10, true) }) (v := undef) rfl (by kernel_rfl) (by kernel_rfl) (by kernel_rfl) (fun _ _ _ h => h) (Or.inr ⟨by rfl, rfl⟩) ?_
          simp only [Act.put, List.setIfInBounds_toArray, List.set_cons_zero, List.set_cons_succ]
          refine wpAny_take (i := 14) (oi := { dst := some 24, op := Go.Op.indexAddr 37 (Go.Operand.tmp 21) (Go.Operand.tmp 23), type := 0, pos := "thresherref9.go:140", after := #[{ on := 11, ground := Go.Ground.data }, { on := 13, ground := Go.Ground.data }, { on := 10, ground := Go.Ground.guard }], guard := some (10, true) }) (v := undef) rfl (by kernel_rfl) (by kernel_rfl) (by kernel_rfl) (fun _ _ _ h => h) (Or.inr ⟨by rfl, rfl⟩) ?_
          simp only [Act.put, List.setIfInBounds_toArray, List.set_cons_zero, List.set_cons_succ]
          refine wpAny_take (i := 15) (oi := { dst := some 25, op := Go.Op.fieldAddr 82 (Go.Operand.tmp 24) 0, type := 0, pos := "thresherref9.go:140", after := #[{ on := 14, ground := Go.Ground.data }, { on := 10, ground := Go.Ground.guard }], guard := some (10, true) }) (v := undef) rfl (by kernel_rfl) (by kernel_rfl) (by kernel_rfl) (fun _ _ _ h => h) (Or.inr ⟨by rfl, rfl⟩) ?_
          simp only [Act.put, List.setIfInBounds_toArray, List.set_cons_zero, List.set_cons_succ]
          refine wpAny_take (i := 16) (oi := { dst := some 26, op := Go.Op.load 66 (Go.Operand.tmp 25), type := 66, pos := "thresherref9.go:140", after := #[{ on := 15, ground := Go.Ground.data }, { on := 10, ground := Go.Ground.guard }], guard := some (10, true) }) (v := undef) rfl (by kernel_rfl) (by kernel_rfl) (by kernel_rfl) (fun _ _ _ h => h) (Or.inr ⟨by rfl, rfl⟩) ?_
          simp only [Act.put, List.setIfInBounds_toArray, List.set_cons_zero, List.set_cons_succ]
          refine wpAny_take (i := 17) (oi := { dst := some 27, op := Go.Op.move (Go.Operand.tmp 0), type := 37, pos := "thresherref9.go:140", after := #[{ on := 10, ground := Go.Ground.guard }], guard := some (10, true) }) (v := undef) rfl (by kernel_rfl) (by kernel_rfl) (by kernel_rfl) (fun _ _ _ h => h) (Or.inr ⟨by rfl, rfl⟩) ?_
          simp only [Act.put, List.setIfInBounds_toArray, List.set_cons_zero, List.set_cons_succ]
          refine wpAny_take (i := 18) (oi := { dst := some 28, op := Go.Op.move (Go.Operand.tmp 3), type := 3, pos := "thresherref9.go:140", after := #[{ on := 10, ground := Go.Ground.guard }], guard := some (10, true) }) (v := undef) rfl (by kernel_rfl) (by kernel_rfl) (by kernel_rfl) (fun _ _ _ h => h) (Or.inr ⟨by rfl, rfl⟩) ?_
          simp only [Act.put, List.setIfInBounds_toArray, List.set_cons_zero, List.set_cons_succ]
          refine wpAny_take (i := 19) (oi := { dst := some 29, op := Go.Op.indexAddr 37 (Go.Operand.tmp 27) (Go.Operand.tmp 28), type := 0, pos := "thresherref9.go:140", after := #[{ on := 17, ground := Go.Ground.data }, { on := 18, ground := Go.Ground.data }, { on := 10, ground := Go.Ground.guard }], guard := some (10, true) }) (v := undef) rfl (by kernel_rfl) (by kernel_rfl) (by kernel_rfl) (fun _ _ _ h => h) (Or.inr ⟨by rfl, rfl⟩) ?_
          simp only [Act.put, List.setIfInBounds_toArray, List.set_cons_zero, List.set_cons_succ]
          refine wpAny_take (i := 20) (oi := { dst := some 30, op := Go.Op.fieldAddr 82 (Go.Operand.tmp 29) 0, type := 0, pos := "thresherref9.go:140", after := #[{ on := 19, ground := Go.Ground.data }, { on := 10, ground := Go.Ground.guard }], guard := some (10, true) }) (v := undef) rfl (by kernel_rfl) (by kernel_rfl) (by kernel_rfl) (fun _ _ _ h => h) (Or.inr ⟨by rfl, rfl⟩) ?_
          simp only [Act.put, List.setIfInBounds_toArray, List.set_cons_zero, List.set_cons_succ]
          refine wpAny_take (i := 21) (oi := { dst := some 31, op := Go.Op.load 66 (Go.Operand.tmp 30), type := 66, pos := "thresherref9.go:140", after := #[{ on := 20, ground := Go.Ground.data }, { on := 10, ground := Go.Ground.guard }], guard := some (10, true) }) (v := undef) rfl (by kernel_rfl) (by kernel_rfl) (by kernel_rfl) (fun _ _ _ h => h) (Or.inr ⟨by rfl, rfl⟩) ?_
          simp only [Act.put, List.setIfInBounds_toArray, List.set_cons_zero, List.set_cons_succ]
          refine wpAny_take (i := 22) (oi := { dst := some 32, op := Go.Op.call { callee := Go.Callee.value (Go.Operand.func 58), args := #[Go.Operand.tmp 26, Go.Operand.tmp 31], argTypes := #[66, 66] }, type := 3, pos := "thresherref9.go:140", after := #[{ on := 16, ground := Go.Ground.data }, { on := 21, ground := Go.Ground.data }, { on := 10, ground := Go.Ground.chain }, { on := 10, ground := Go.Ground.guard }], guard := some (10, true) }) (v := undef) rfl (by kernel_rfl) (by kernel_rfl) (by kernel_rfl) (fun _ _ _ h => h) (Or.inr ⟨by rfl, rfl⟩) ?_
          simp only [Act.put, List.setIfInBounds_toArray, List.set_cons_zero, List.set_cons_succ]
          refine wpAny_take (i := 23) (oi := { dst := some 33, op := Go.Op.binOp Go.BinOp.geq 3 (Go.Operand.tmp 32) (Go.Operand.const (Go.Value.int Go.IntKind.i64 0)) 3, type := 4, pos := "thresherref9.go:140", after := #[{ on := 22, ground := Go.Ground.data }, { on := 10, ground := Go.Ground.guard }], guard := some (10, true) }) (v := undef) rfl (by kernel_rfl) (by kernel_rfl) (by kernel_rfl) (fun _ _ _ h => h) (Or.inr ⟨by rfl, rfl⟩) ?_
          simp only [Act.put, List.setIfInBounds_toArray, List.set_cons_zero, List.set_cons_succ]
          refine wpAny_take (i := 24) (oi := { dst := some 34, op := Go.Op.pick (Go.Operand.tmp 20) (Go.Operand.tmp 33) (Go.Operand.const (Go.Value.bool false)), type := 4, pos := "thresherref9.go:140", after := #[{ on := 10, ground := Go.Ground.data }, { on := 23, ground := Go.Ground.data }, { on := 7, ground := Go.Ground.guard }], guard := some (7, false) }) (v := ?v24y17) rfl (by kernel_rfl) (by kernel_rfl) (by kernel_rfl) (fun _ _ _ h => h) (Or.inl ⟨by rfl, ?h24y17⟩) ?r24y17
          case h24y17 => (intro W; go_simp; try with_reducible rfl)
          simp only [Act.put, List.setIfInBounds_toArray, List.set_cons_zero, List.set_cons_succ]
          refine wpAny_take (i := 25) (oi := { dst := some 35, op := Go.Op.pick (Go.Operand.tmp 17) (Go.Operand.const (Go.Value.bool true)) (Go.Operand.tmp 34), type := 4, pos := "thresherref9.go:140", after := #[{ on := 7, ground := Go.Ground.data }, { on := 24, ground := Go.Ground.data }], guard := none }) (v := ?v25y18) rfl (by kernel_rfl) (by kernel_rfl) (by kernel_rfl) (fun _ _ _ h => h) (Or.inl ⟨by rfl, ?h25y18⟩) ?r25y18
          case h25y18 => (intro W; go_simp; try with_reducible rfl)
          simp only [Act.put, List.setIfInBounds_toArray, List.set_cons_zero, List.set_cons_succ]
          refine wpAny_done (by kernel_rfl) ?_ _
          go_wp2
          go_roundw
          case rel => exact ⟨1, by omega, by go_num, HO2.out, HBEL.out.trans ((nxt ((Below.refl w0.heap.size w0).drew) hb1).mono hsz)⟩
          case measure => simp [intOf]; omega
        · obtain ⟨m, hm⟩ : ∃ m, k = m + 1 := ⟨k - 1, by omega⟩
          obtain ⟨⟨⟨xa, xb⟩, xn, xl⟩, hx⟩ := getSome (l := l) (i := m) (by omega)
          obtain ⟨d0, d1, -⟩ := (hat.below hbel hb) m _ hx
          simp only at d0 d1
          have hbl : b < w0.heap.size := by omega
          have HS := hidM (show ∀ W, Below w0.heap.size w0 W → W.cell? ⟨b, off + k * 4, none⟩ = some (.int .i64 ya) ∧ W.cell? ⟨b, off + k * 4 + 1, none⟩ = some (.string yb) ∧ W.cell? ⟨b, off + m * 4, none⟩ = some (.int .i64 xa) ∧ W.cell? ⟨b, off + m * 4 + 1, none⟩ = some (.string xb) ∧ Below w0.heap.size w0 W from fun W hW =>
            ⟨(hW.cell (p := ⟨b, _, none⟩) hbl).trans c0, (hW.cell (p := ⟨b, _, none⟩) hbl).trans c1, (hW.cell (p := ⟨b, _, none⟩) hbl).trans d0, (hW.cell (p := ⟨b, _, none⟩) hbl).trans d1, hW⟩)
          have HC := hidM (fun W => rcmp_any (xa, xb) (ya, yb) W)
          have hneg := cfK_lt0 (xa, xb) (ya, yb)
          have hwr : IntKind.i64.wrap ((k : Int) - 1) = (m : Int) := by rw [IntKind.wrap_i64]; omega
          have hm0 : (0 : Int) ≤ (m : Int) := by omega
          have hmi : (m : Int) < (l.length : Int) := by omega
          have hd1 : decide ((0 : Int) < (k : Int)) = true := decide_eq_true (by omega)
          have hd2 : decide (0 < k) = true := decide_eq_true (by omega)
          have HM := hidM hm
          cases hlk : ltK (xa, xb) (ya, yb) with
          | true =>
            rw [hlk, decide_eq_true_eq] at hneg
            have HO2 := hidM (HO.out.step hy hs (fun m' x' hm' hx' => by
              obtain rfl : m' = m := by omega
              rw [hx] at hx'
              injection hx' with hx'
              subst hx'
              exact hlk))
            obtain ⟨cf, hcf⟩ : ∃ cf : Int, cf = cfK (xa, xb) (ya, yb) := ⟨_, rfl⟩
            rw [← hcf] at HC hneg
            have hneg2 : decide ((0 : Int) ≤ cf) = false := decide_eq_false (by omega)
            clear hat hbel hy hx hs HO hcf hm hlk c0 c1 d0 d1 hneg
            go_wp2_with fail
            go_region_held3 (fun W => W.cell? ⟨b, off + k * 4, none⟩ = some (.int .i64 ya) ∧ W.cell? ⟨b, off + k * 4 + 1, none⟩ = some (.string yb) ∧ W.cell? ⟨b, off + m * 4, none⟩ = some (.int .i64 xa) ∧ W.cell? ⟨b, off + m * 4 + 1, none⟩ = some (.string xb) ∧ Below w0.heap.size w0 W)
              (first | exact HS.out _ (Below.refl _ _).drew | exact HS.out _ (nxt ((Below.refl _ _).drew) hb2) | exact HS.out _ (nxt (nxt ((Below.refl _ _).drew) hb2) hb3))
              (first | (go_at_call 41; refine (HK.out _).mono ?_; rintro e W2 ⟨rfl, hb2⟩) | (go_at_call 58; refine (HC.out _).mono ?_; rintro e W3 ⟨rfl, hb3⟩))
            go_wp2
            go_roundw
            case rel => exact ⟨k + 1, by omega, by go_num, HO2.out, HBEL.out.trans ((nxt (nxt ((Below.refl w0.heap.size w0).drew) hb2) hb3).mono hsz)⟩
            case measure => simp [intOf]; omega
          | false =>
            rw [hlk, decide_eq_false_iff_not] at hneg
            have HF := hidM (ordB_two hm hx hy hlk)
            obtain ⟨cf, hcf⟩ : ∃ cf : Int, cf = cfK (xa, xb) (ya, yb) := ⟨_, rfl⟩
            rw [← hcf] at HC hneg
            have hneg2 : decide ((0 : Int) ≤ cf) = true := decide_eq_true (by omega)
            clear hat hbel hy hx hs HO hcf hm hlk c0 c1 d0 d1 hneg
            go_wp2_with fail
            go_region_held3 (fun W => W.cell? ⟨b, off + k * 4, none⟩ = some (.int .i64 ya) ∧ W.cell? ⟨b, off + k * 4 + 1, none⟩ = some (.string yb) ∧ W.cell? ⟨b, off + m * 4, none⟩ = some (.int .i64 xa) ∧ W.cell? ⟨b, off + m * 4 + 1, none⟩ = some (.string xb) ∧ Below w0.heap.size w0 W)
              (first | exact HS.out _ (Below.refl _ _).drew | exact HS.out _ (nxt ((Below.refl _ _).drew) hb2) | exact HS.out _ (nxt (nxt ((Below.refl _ _).drew) hb2) hb3))
              (first | (go_at_call 41; refine (HK.out _).mono ?_; rintro e W2 ⟨rfl, hb2⟩) | (go_at_call 58; refine (HC.out _).mono ?_; rintro e W3 ⟨rfl, hb3⟩))
            go_wp2
            go_ret
            exact ⟨by rw [HF.out]; rfl, HBEL.out.trans ((nxt (nxt ((Below.refl w0.heap.size w0).drew) hb2) hb3).mono hsz)⟩
      · rw [show decide ((ya, yb).2.size ≤ 64) = false from decide_eq_false hs] at HK
        have HF := hidM (ordB_key hy hs)
        clear hat hbel hy hs HO
        go_wp2_with fail
        refine wp_region_any (by kernel_rfl) ?_
        change wpAny _ _ _ _ _ _ _ (World.drew _)
        refine wpAny_take (i := 0) (oi := { dst := some 10, op := Go.Op.move (Go.Operand.tmp 0), type := 37, pos := "thresherref9.go:140", after := #[], guard := none }) (v := ?v0y1) rfl (by kernel_rfl) (by kernel_rfl) (by kernel_rfl) (fun _ _ _ h => h) (Or.inl ⟨by rfl, ?h0y1⟩) ?r0y1
        case h0y1 => (intro W; go_simp; try with_reducible rfl)
        simp only [Act.put, List.setIfInBounds_toArray, List.set_cons_zero, List.set_cons_succ]
        refine wpAny_take (i := 1) (oi := { dst := some 11, op := Go.Op.move (Go.Operand.tmp 3), type := 3, pos := "thresherref9.go:140", after := #[], guard := none }) (v := ?v1y2) rfl (by kernel_rfl) (by kernel_rfl) (by kernel_rfl) (fun _ _ _ h => h) (Or.inl ⟨by rfl, ?h1y2⟩) ?r1y2
        case h1y2 => (intro W; go_simp; try with_reducible rfl)
        simp only [Act.put, List.setIfInBounds_toArray, List.set_cons_zero, List.set_cons_succ]
        refine wpAny_take (i := 2) (oi := { dst := some 12, op := Go.Op.indexAddr 37 (Go.Operand.tmp 10) (Go.Operand.tmp 11), type := 0, pos := "thresherref9.go:140", after := #[{ on := 0, ground := Go.Ground.data }, { on := 1, ground := Go.Ground.data }], guard := none }) (v := ?v2y3) rfl (by kernel_rfl) (by kernel_rfl) (by kernel_rfl) (fun _ _ _ h => h) (Or.inl ⟨by rfl, ?h2y3⟩) ?r2y3
        case h2y3 => (intro W; go_simp; try with_reducible rfl)
        simp only [Act.put, List.setIfInBounds_toArray, List.set_cons_zero, List.set_cons_succ]
        refine wpAny_take (i := 3) (oi := { dst := some 13, op := Go.Op.fieldAddr 82 (Go.Operand.tmp 12) 0, type := 0, pos := "thresherref9.go:140", after := #[{ on := 2, ground := Go.Ground.data }], guard := none }) (v := ?v3y4) rfl (by kernel_rfl) (by kernel_rfl) (by kernel_rfl) (fun _ _ _ h => h) (Or.inl ⟨by rfl, ?h3y4⟩) ?r3y4
        case h3y4 => (intro W; go_simp; try with_reducible rfl)
        simp only [Act.put, List.setIfInBounds_toArray, List.set_cons_zero, List.set_cons_succ]
        refine wpAny_ready (rs := [4]) (by kernel_rfl) (by simp) ?_
        refine AllReady.cons (o := { dst := some 14, op := Go.Op.load 66 (Go.Operand.tmp 13), type := 66, pos := "thresherref9.go:140", after := #[{ on := 3, ground := Go.Ground.data }], guard := none }) rfl (fun K hK => ?_) AllReady.nil
        go_simp
        refine hK _ _ ?_
        clear hK K
        try simp only [Act.put, List.setIfInBounds_toArray, List.set_cons_zero, List.set_cons_succ]
        refine wpAny_ready (rs := [5]) (by kernel_rfl) (by simp) ?_
        refine AllReady.cons (o := { dst := some 15, op := Go.Op.call { callee := Go.Callee.value (Go.Operand.func 41), args := #[Go.Operand.tmp 14], argTypes := #[66] }, type := 4, pos := "thresherref9.go:140", after := #[{ on := 4, ground := Go.Ground.data }], guard := none }) rfl (fun K hK => ?_) AllReady.nil
        go_simp
        refine (HK.out _).mono ?_
        rintro e W1 ⟨rfl, hb1⟩
        refine hK _ _ ?_
        clear hK K
        try simp only [Act.put, List.setIfInBounds_toArray, List.set_cons_zero, List.set_cons_succ]
        refine wpAny_take (i := 6) (oi := { dst := some 16, op := Go.Op.unOp Go.UnOp.not 4 (Go.Operand.tmp 15), type := 4, pos := "thresherref9.go:140", after := #[{ on := 5, ground := Go.Ground.data }], guard := none }) (v := ?v6y5) rfl (by kernel_rfl) (by kernel_rfl) (by kernel_rfl) (fun _ _ _ h => h) (Or.inl ⟨by rfl, ?h6y5⟩) ?r6y5
        case h6y5 => (intro W; go_simp; try with_reducible rfl)
        simp only [Act.put, List.setIfInBounds_toArray, List.set_cons_zero, List.set_cons_succ]
        refine wpAny_take (i := 7) (oi := { dst := some 17, op := Go.Op.move (Go.Operand.tmp 16), type := 4, pos := "thresherref9.go:140", after := #[{ on := 6, ground := Go.Ground.data }, { on := 5, ground := Go.Ground.chain }], guard := none }) (v := ?v7y6) rfl (by kernel_rfl) (by kernel_rfl) (by kernel_rfl) (fun _ _ _ h => h) (Or.inl ⟨by rfl, ?h7y6⟩) ?r7y6
        case h7y6 => (intro W; go_simp; try with_reducible rfl)
        simp only [Act.put, List.setIfInBounds_toArray, List.set_cons_zero, List.set_cons_succ]
        refine wpAny_take (i := 8) (oi := { dst := some 18, op := Go.Op.move (Go.Operand.tmp 3), type := 3, pos := "thresherref9.go:140", after := #[{ on := 7, ground := Go.Ground.guard }], guard := some (7, false) }) (v := undef) rfl (by kernel_rfl) (by kernel_rfl) (by kernel_rfl) (fun _ _ _ h => h) (Or.inr ⟨by rfl, rfl⟩) ?_
        simp only [Act.put, List.setIfInBounds_toArray, List.set_cons_zero, List.set_cons_succ]
        refine wpAny_take (i := 9) (oi := { dst := some 19, op := Go.Op.binOp Go.BinOp.gtr 3 (Go.Operand.tmp 18) (Go.Operand.const (Go.Value.int Go.IntKind.i64 0)) 3, type := 4, pos := "thresherref9.go:140", after := #[{ on := 8, ground := Go.Ground.data }, { on := 7, ground := Go.Ground.guard }], guard := some (7, false) }) (v := undef) rfl (by kernel_rfl) (by kernel_rfl) (by kernel_rfl) (fun _ _ _ h => h) (Or.inr ⟨by rfl, rfl⟩) ?_
        simp only [Act.put, List.setIfInBounds_toArray, List.set_cons_zero, List.set_cons_succ]
        refine wpAny_take (i := 10) (oi := { dst := some 20, op := Go.Op.move (Go.Operand.tmp 19), type := 4, pos := "thresherref9.go:140", after := #[{ on := 9, ground := Go.Ground.data }, { on := 7, ground := Go.Ground.chain }, { on := 7, ground := Go.Ground.guard }], guard := some (7, false) }) (v := undef) rfl (by kernel_rfl) (by kernel_rfl) (by kernel_rfl) (fun _ _ _ h => h) (Or.inr ⟨by rfl, rfl⟩) ?_
        simp only [Act.put, List.setIfInBounds_toArray, List.set_cons_zero, List.set_cons_succ]
        refine wpAny_take (i := 11) (oi := { dst := some 21, op := Go.Op.move (Go.Operand.tmp 0), type := 37, pos := "thresherref9.go:140", after := #[{ on := 10, ground := Go.Ground.guard }], guard := some (10, true) }) (v := undef) rfl (by kernel_rfl) (by kernel_rfl) (by kernel_rfl) (fun _ _ _ h => h) (Or.inr ⟨by rfl, rfl⟩) ?_
        simp only [Act.put, List.setIfInBounds_toArray, List.set_cons_zero, List.set_cons_succ]
        refine wpAny_take (i := 12) (oi := { dst := some 22, op := Go.Op.move (Go.Operand.tmp 3), type := 3, pos := "thresherref9.go:140", after := #[{ on := 10, ground := Go.Ground.guard }], guard := some (10, true) }) (v := undef) rfl (by kernel_rfl) (by kernel_rfl) (by kernel_rfl) (fun _ _ _ h => h) (Or.inr ⟨by rfl, rfl⟩) ?_
        simp only [Act.put, List.setIfInBounds_toArray, List.set_cons_zero, List.set_cons_succ]
        refine wpAny_take (i := 13) (oi := { dst := some 23, op := Go.Op.binOp Go.BinOp.sub 3 (Go.Operand.tmp 22) (Go.Operand.const (Go.Value.int Go.IntKind.i64 1)) 3, type := 3, pos := "thresherref9.go:140", after := #[{ on := 12, ground := Go.Ground.data }, { on := 10, ground := Go.Ground.guard }], guard := some (10, true) }) (v := undef) rfl (by kernel_rfl) (by kernel_rfl) (by kernel_rfl) (fun _ _ _ h => h) (Or.inr ⟨by rfl, rfl⟩) ?_
        simp only [Act.put, List.setIfInBounds_toArray, List.set_cons_zero, List.set_cons_succ]
        refine wpAny_take (i := 14) (oi := { dst := some 24, op := Go.Op.indexAddr 37 (Go.Operand.tmp 21) (Go.Operand.tmp 23), type := 0, pos := "thresherref9.go:140", after := #[{ on := 11, ground := Go.Ground.data }, { on := 13, ground := Go.Ground.data }, { on := 10, ground := Go.Ground.guard }], guard := some (10, true) }) (v := undef) rfl (by kernel_rfl) (by kernel_rfl) (by kernel_rfl) (fun _ _ _ h => h) (Or.inr ⟨by rfl, rfl⟩) ?_
        simp only [Act.put, List.setIfInBounds_toArray, List.set_cons_zero, List.set_cons_succ]
        refine wpAny_take (i := 15) (oi := { dst := some 25, op := Go.Op.fieldAddr 82 (Go.Operand.tmp 24) 0, type := 0, pos := "thresherref9.go:140", after := #[{ on := 14, ground := Go.Ground.data }, { on := 10, ground := Go.Ground.guard }], guard := some (10, true) }) (v := undef) rfl (by kernel_rfl) (by kernel_rfl) (by kernel_rfl) (fun _ _ _ h => h) (Or.inr ⟨by rfl, rfl⟩) ?_
        simp only [Act.put, List.setIfInBounds_toArray, List.set_cons_zero, List.set_cons_succ]
        refine wpAny_take (i := 16) (oi := { dst := some 26, op := Go.Op.load 66 (Go.Operand.tmp 25), type := 66, pos := "thresherref9.go:140", after := #[{ on := 15, ground := Go.Ground.data }, { on := 10, ground := Go.Ground.guard }], guard := some (10, true) }) (v := undef) rfl (by kernel_rfl) (by kernel_rfl) (by kernel_rfl) (fun _ _ _ h => h) (Or.inr ⟨by rfl, rfl⟩) ?_
        simp only [Act.put, List.setIfInBounds_toArray, List.set_cons_zero, List.set_cons_succ]
        refine wpAny_take (i := 17) (oi := { dst := some 27, op := Go.Op.move (Go.Operand.tmp 0), type := 37, pos := "thresherref9.go:140", after := #[{ on := 10, ground := Go.Ground.guard }], guard := some (10, true) }) (v := undef) rfl (by kernel_rfl) (by kernel_rfl) (by kernel_rfl) (fun _ _ _ h => h) (Or.inr ⟨by rfl, rfl⟩) ?_
        simp only [Act.put, List.setIfInBounds_toArray, List.set_cons_zero, List.set_cons_succ]
        refine wpAny_take (i := 18) (oi := { dst := some 28, op := Go.Op.move (Go.Operand.tmp 3), type := 3, pos := "thresherref9.go:140", after := #[{ on := 10, ground := Go.Ground.guard }], guard := some (10, true) }) (v := undef) rfl (by kernel_rfl) (by kernel_rfl) (by kernel_rfl) (fun _ _ _ h => h) (Or.inr ⟨by rfl, rfl⟩) ?_
        simp only [Act.put, List.setIfInBounds_toArray, List.set_cons_zero, List.set_cons_succ]
        refine wpAny_take (i := 19) (oi := { dst := some 29, op := Go.Op.indexAddr 37 (Go.Operand.tmp 27) (Go.Operand.tmp 28), type := 0, pos := "thresherref9.go:140", after := #[{ on := 17, ground := Go.Ground.data }, { on := 18, ground := Go.Ground.data }, { on := 10, ground := Go.Ground.guard }], guard := some (10, true) }) (v := undef) rfl (by kernel_rfl) (by kernel_rfl) (by kernel_rfl) (fun _ _ _ h => h) (Or.inr ⟨by rfl, rfl⟩) ?_
        simp only [Act.put, List.setIfInBounds_toArray, List.set_cons_zero, List.set_cons_succ]
        refine wpAny_take (i := 20) (oi := { dst := some 30, op := Go.Op.fieldAddr 82 (Go.Operand.tmp 29) 0, type := 0, pos := "thresherref9.go:140", after := #[{ on := 19, ground := Go.Ground.data }, { on := 10, ground := Go.Ground.guard }], guard := some (10, true) }) (v := undef) rfl (by kernel_rfl) (by kernel_rfl) (by kernel_rfl) (fun _ _ _ h => h) (Or.inr ⟨by rfl, rfl⟩) ?_
        simp only [Act.put, List.setIfInBounds_toArray, List.set_cons_zero, List.set_cons_succ]
        refine wpAny_take (i := 21) (oi := { dst := some 31, op := Go.Op.load 66 (Go.Operand.tmp 30), type := 66, pos := "thresherref9.go:140", after := #[{ on := 20, ground := Go.Ground.data }, { on := 10, ground := Go.Ground.guard }], guard := some (10, true) }) (v := undef) rfl (by kernel_rfl) (by kernel_rfl) (by kernel_rfl) (fun _ _ _ h => h) (Or.inr ⟨by rfl, rfl⟩) ?_
        simp only [Act.put, List.setIfInBounds_toArray, List.set_cons_zero, List.set_cons_succ]
        refine wpAny_take (i := 22) (oi := { dst := some 32, op := Go.Op.call { callee := Go.Callee.value (Go.Operand.func 58), args := #[Go.Operand.tmp 26, Go.Operand.tmp 31], argTypes := #[66, 66] }, type := 3, pos := "thresherref9.go:140", after := #[{ on := 16, ground := Go.Ground.data }, { on := 21, ground := Go.Ground.data }, { on := 10, ground := Go.Ground.chain }, { on := 10, ground := Go.Ground.guard }], guard := some (10, true) }) (v := undef) rfl (by kernel_rfl) (by kernel_rfl) (by kernel_rfl) (fun _ _ _ h => h) (Or.inr ⟨by rfl, rfl⟩) ?_
        simp only [Act.put, List.setIfInBounds_toArray, List.set_cons_zero, List.set_cons_succ]
        refine wpAny_take (i := 23) (oi := { dst := some 33, op := Go.Op.binOp Go.BinOp.geq 3 (Go.Operand.tmp 32) (Go.Operand.const (Go.Value.int Go.IntKind.i64 0)) 3, type := 4, pos := "thresherref9.go:140", after := #[{ on := 22, ground := Go.Ground.data }, { on := 10, ground := Go.Ground.guard }], guard := some (10, true) }) (v := undef) rfl (by kernel_rfl) (by kernel_rfl) (by kernel_rfl) (fun _ _ _ h => h) (Or.inr ⟨by rfl, rfl⟩) ?_
        simp only [Act.put, List.setIfInBounds_toArray, List.set_cons_zero, List.set_cons_succ]
        refine wpAny_take (i := 24) (oi := { dst := some 34, op := Go.Op.pick (Go.Operand.tmp 20) (Go.Operand.tmp 33) (Go.Operand.const (Go.Value.bool false)), type := 4, pos := "thresherref9.go:140", after := #[{ on := 10, ground := Go.Ground.data }, { on := 23, ground := Go.Ground.data }, { on := 7, ground := Go.Ground.guard }], guard := some (7, false) }) (v := undef) rfl (by kernel_rfl) (by kernel_rfl) (by kernel_rfl) (fun _ _ _ h => h) (Or.inr ⟨by rfl, rfl⟩) ?_
        simp only [Act.put, List.setIfInBounds_toArray, List.set_cons_zero, List.set_cons_succ]
        refine wpAny_take (i := 25) (oi := { dst := some 35, op := Go.Op.pick (Go.Operand.tmp 17) (Go.Operand.const (Go.Value.bool true)) (Go.Operand.tmp 34), type := 4, pos := "thresherref9.go:140", after := #[{ on := 7, ground := Go.Ground.data }, { on := 24, ground := Go.Ground.data }], guard := none }) (v := ?v25y7) rfl (by kernel_rfl) (by kernel_rfl) (by kernel_rfl) (fun _ _ _ h => h) (Or.inl ⟨by rfl, ?h25y7⟩) ?r25y7
        case h25y7 => (intro W; go_simp; try with_reducible rfl)
        simp only [Act.put, List.setIfInBounds_toArray, List.set_cons_zero, List.set_cons_succ]
        refine wpAny_done (by kernel_rfl) ?_ _
        go_wp2
        go_ret
        exact ⟨by rw [HF.out]; rfl, HBEL.out.trans ((nxt ((Below.refl w0.heap.size w0).drew) hb1).mono hsz)⟩
    · have hlt' : l.length ≤ k := by omega
      have HF := hidM (HO.out.fin hlt')
      by_cases hm : l.length ≤ 1536
      · have hmi : (l.length : Int) ≤ 1536 := by omega
        rw [decide_eq_true hm] at HF
        go_wp2
        go_ret
        exact ⟨by rw [HF.out]; rfl, hbel⟩
      · have hmi : ¬ (l.length : Int) ≤ 1536 := by omega
        rw [decide_eq_false hm] at HF
        go_wp2
        go_ret
        exact ⟨by rw [HF.out]; rfl, hbel⟩
end Go.Proofs.YtaagllbcmgnbnaaGreatDoor
