/- check: what an op takes and leaves, told by the program: change, word. -/
import Derived.Test.YtjegnffhegiajaaCPlain
import Derived.Test.YtjegnffhegiajaaLGrow
import Derived.Test.YtjegnffhegiajaaLQB
import Derived.Test.YtjegnffhegiajaaLChk
import Derived.StillTailTactics
namespace Go.Proofs.Ytjegnffhegiajaa
open Go.RowKit
set_option linter.unusedVariables false
set_option maxRecDepth 100000

theorem hidK {p : Prop} (h : p) : Hid p := h
theorem change_any (k : Int) (w : World) : Calls Try.prog 31 #[.int .i64 k] w fun e w' => e = .returned (.tuple #[.int .i64 (tk k), .int .i64 (lv k)]) ∧ w' = w := by
  unfold tk lv
  by_cases h1 : k ≤ 4
  · have e1 : k ≤ 24 := by omega
    rw [if_pos h1, if_pos e1]
    clear e1
    go_enter Try.func31, Try.ntmps31
    go_wp2
    go_ret2
    exact ⟨rfl, rfl⟩
  rw [if_neg h1]
  by_cases h2 : k ≤ 17
  · have e1 : k ≤ 24 := by omega
    rw [if_pos h2, if_pos e1]
    clear e1
    go_enter Try.func31, Try.ntmps31
    go_wp2
    go_ret2
    exact ⟨rfl, rfl⟩
  rw [if_neg h2]
  by_cases h3 : k ≤ 24
  · have e1 : k ≤ 25 := by omega
    rw [if_pos h3, if_pos e1]
    clear e1
    go_enter Try.func31, Try.ntmps31
    go_wp2
    go_ret2
    exact ⟨rfl, rfl⟩
  rw [if_neg h3]
  by_cases h4 : k ≤ 25
  · have e1 : k ≤ 26 := by omega
    rw [if_pos h4, if_pos e1]
    clear e1
    go_enter Try.func31, Try.ntmps31
    go_wp2
    go_ret2
    exact ⟨rfl, rfl⟩
  rw [if_neg h4]
  by_cases h5 : k ≤ 26
  · rw [if_pos h5, if_pos h5]
    go_enter Try.func31, Try.ntmps31
    go_wp2
    go_ret2
    exact ⟨rfl, rfl⟩
  rw [if_neg h5, if_neg h5]
  by_cases h6 : k ≤ 29
  · rw [if_pos h6]
    go_enter Try.func31, Try.ntmps31
    go_wp2
    go_ret2
    exact ⟨rfl, rfl⟩
  rw [if_neg h6]
  go_enter Try.func31, Try.ntmps31
  go_wp2
  go_ret2
  exact ⟨rfl, rfl⟩

/-! ### A stack that has no numbers -/
def BlkS (W : World) (R : Nat) (h m : Int) : Prop := W.heap[R]? = some (.cells #[.int .i64 h, .int .i64 m] 54 (0, 0))
theorem BlkS.new (W : World) (h m : Int) : BlkS (W.alloc (.cells #[.int .i64 h, .int .i64 m] 54)) W.heap.size h m := heap_alloc_new W _
theorem BlkS.lt {W : World} {R : Nat} {h m : Int} (b : BlkS W R h m) : R < W.heap.size := (Array.getElem?_eq_some_iff.1 b).1
theorem BlkS.step {W W' : World} {R : Nat} {h m : Int} (b : BlkS W R h m) (hw : Below W.heap.size W W') : BlkS W' R h m := by unfold BlkS; rw [hw.block R b.lt]; exact b
theorem BlkS.cells {W : World} {R : Nat} {h m : Int} (b : BlkS W R h m) : (W.cell? ⟨R, 0, none⟩ = some (.int .i64 h) ∧ W.cell? ⟨R, 1, none⟩ = some (.int .i64 m)) ∧ W.frozen? ⟨R, 0, none⟩ = false ∧ W.frozen? ⟨R, 1, none⟩ = false := by
  unfold BlkS at b
  refine ⟨⟨?_, ?_⟩, ?_, ?_⟩ <;> simp [World.cell?, World.frozen?, b]
theorem BlkS.put {W : World} {R : Nat} {h m : Int} (b : BlkS W R h m) (h' m' : Int) : BlkS ((W.setCell ⟨R, 0, none⟩ (.int .i64 h')).setCell ⟨R, 1, none⟩ (.int .i64 m')).drew R h' m' := by
  unfold BlkS at b ⊢
  simp only [World.setCell, World.drew, Array.getElem?_modify, b]
  simp
theorem BlkS.grown {W : World} {R : Nat} (h' m' : Int) : W.grownBy ((W.setCell ⟨R, 0, none⟩ (.int .i64 h')).setCell ⟨R, 1, none⟩ (.int .i64 m')).drew (some R) :=
  ⟨rfl, rfl, rfl, by simp [World.setCell, World.drew], fun k hk hne => by
    have hk' : k ≠ R := fun e => hne (by rw [e])
    show ((W.setCell ⟨R, 0, none⟩ (.int .i64 h')).setCell ⟨R, 1, none⟩ (.int .i64 m')).heap[k]? = _
    rw [Below.heap_setCell _ _ _ _ hk', Below.heap_setCell _ _ _ _ hk']⟩
/-- What word tells. -/
def WordR (k h m fl : Int) (R : Nat) (w : World) (e : Ending) (w' : World) : Prop :=
  (h - tk k < fl ∧ e = .returned (.bool false) ∧ w' = w) ∨ (fl ≤ h - tk k ∧ e = .returned (.bool (decide (h - tk k + lv k ≤ 16))) ∧ BlkS w' R (h - tk k + lv k) (max m (h - tk k + lv k)) ∧ w.grownBy w' (some R))
set_option maxHeartbeats 800000 in
theorem word_any (k hh m fl : Int) (R : Nat) (w : World) (b : BlkS w R hh m) (h0 : 0 ≤ hh) (h1 : hh ≤ 16) (m0 : 0 ≤ m) (m1 : m ≤ 16) (f0 : 0 ≤ fl) :
    Calls Try.prog 27 #[.pointer (some ⟨R, 0, none⟩), .int .i64 k, .int .i64 fl] w fun e w' => WordR k hh m fl R w e w' := by
  have Hc := hidK (change_any k w)
  have ht := tk_bd k
  have hl := lv_bd k
  unfold WordR
  generalize tk k = t at Hc ht ⊢
  generalize lv k = u at Hc hl ⊢
  have HB := hidK b
  obtain ⟨⟨c0, c1⟩, z0, z1⟩ := b.cells
  clear b
  by_cases hf : hh - t < fl
  · go_enter Try.func27, Try.ntmps27
    go_wp2_with (go_at_call 31; refine Hc.out.mono ?_; rintro e w' ⟨rfl, rfl⟩)
    go_ret
    exact .inl ⟨hf, rfl, rfl⟩
  · have hf' : fl ≤ hh - t := by omega
    have e1 : hh - t + u = hh + (u - t) := by omega
    have HE := hidK e1
    clear hf e1
    go_enter Try.func27, Try.ntmps27
    go_wp2_with (go_at_call 31; refine Hc.out.mono ?_; rintro e w' ⟨rfl, rfl⟩)
    go_region
    go_wp2
    · have e2 : max m (hh - t + u) = hh + (u - t) := by omega
      go_ret
      refine .inr ⟨by rw [HE.out]; rfl, ?_, BlkS.grown _ _⟩
      rw [e2, HE.out]
      exact HB.out.put _ _
    · have e2 : max m (hh - t + u) = m := by omega
      go_ret
      refine .inr ⟨by rw [HE.out]; rfl, ?_, BlkS.grown _ _⟩
      rw [e2, HE.out]
      exact HB.out.put _ _

/-! ### list and block -/
/-- What list tells. -/
def ListR (f : Fo) (h m : Int) (R : Nat) (w : World) (e : Ending) (w' : World) : Prop :=
  (∃ l p, nd f h h m = some (l, p) ∧ e = .returned (.bool true) ∧ BlkS w' R l p) ∨ (nd f h h m = none ∧ e = .returned (.bool false))
def ListK (B : Nat) (f : Fo) : Prop := ∀ (v : Value) (w : World) (h m : Int) (R : Nat), FS (QB B) w v f → f.len ≤ 3518437208780 → WfB f → BlkS w R h m → B ≤ R → 0 ≤ h → h ≤ m → m ≤ 16 →
  Calls Try.prog 22 #[.pointer (some ⟨R, 0, none⟩), v] w fun e w' => ListR f h m R w e w' ∧ w.grownBy w' (some R)
/-- What block tells. -/
def BlockR (f : Fo) (h m : Int) (R : Nat) (w : World) (e : Ending) (w' : World) : Prop :=
  (∃ p, nd f h h m = some (h, p) ∧ e = .returned (.bool true) ∧ BlkS w' R h p) ∨ ((∀ p, nd f h h m ≠ some (h, p)) ∧ e = .returned (.bool false))
theorem block_chk (B : Nat) (f : Fo) (IH : ListK B f) (v : Value) (w : World) (h m : Int) (R : Nat) (hf : FS (QB B) w v f) (hl : f.len ≤ 3518437208780) (hwf : WfB f) (hb : BlkS w R h m) (hB : B ≤ R) (h0 : 0 ≤ h) (h1 : h ≤ m) (h2 : m ≤ 16) :
    Calls Try.prog 28 #[.pointer (some ⟨R, 0, none⟩), v] w fun e w' => BlockR f h m R w e w' ∧ w.grownBy w' (some R) := by
  have Hc := hidK (IH v w h m R hf hl hwf hb hB h0 h1 h2)
  obtain ⟨⟨c0, c1⟩, _⟩ := hb.cells
  obtain ⟨a, cap, rfl⟩ := hf.val
  clear hf IH hb
  go_enter Try.func28, Try.ntmps28
  go_wp2_with fail
  refine Hc.out.mono ?_
  rintro e w1 ⟨hr, hg⟩
  have HG := hidK hg
  rcases hr with ⟨l, p, hn, rfl, hb1⟩ | ⟨hn, rfl⟩
  · have hbd := nd_bd _ _ _ _ _ _ hn (by omega) h1 h2
    obtain ⟨⟨d0, d1⟩, _⟩ := hb1.cells
    have HB := hidK hb1
    have HN := hidK hn
    clear hb1 hn hg c0 c1
    by_cases he : l = h
    · subst he
      go_wp2
      go_ret
      exact ⟨.inl ⟨p, HN.out, rfl, HB.out⟩, HG.out⟩
    · have hne : (l == h) = false := beq_eq_false_iff_ne.2 he
      have HC : Hid (BlockR f h m R w (.returned (.bool false)) w1) := .inr ⟨fun q hq => he (by rw [HN.out] at hq; injection hq with hq; injection hq), rfl⟩
      clear he
      go_wp2
      go_ret
      exact ⟨HC.out, HG.out⟩
  · have HC : Hid (BlockR f h m R w (.returned (.bool false)) w1) := .inr ⟨fun q hq => (by rw [hn] at hq; cases hq), rfl⟩
    clear hn hg
    go_wp2
    go_ret
    exact ⟨HC.out, HG.out⟩
end Go.Proofs.Ytjegnffhegiajaa
