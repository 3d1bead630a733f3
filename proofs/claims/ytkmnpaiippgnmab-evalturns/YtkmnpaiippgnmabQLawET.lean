/- EvalTurns: the walk. -/
import Derived.Test.YtkmnpaiippgnmabQ6
namespace Go.Proofs.Ytkmnpaiippgnmab
open Go.RowKit
set_option linter.unusedVariables false
set_option maxRecDepth 100000

/-- A number, and a block that is done so often. -/
def tf (n : Int) : Fo := .cons 1 n .nil (.cons 29 0 wakeF .nil)
abbrev e0 : ByteArray := ⟨#[]⟩
def turnT (j : Nat) : Int × Int × Nat := ((runR (tf ((j : Int) - 2)) ((0, e0), 4) 80).1, (runR (tf ((j : Int) - 2)) ((0, e0), 4) 80).2.1, (runR (tf ((j : Int) - 2)) ((0, e0), 4) 80).2.2.length)
theorem turns_all : ∀ j, j < 22 → turnT j = (0, 78 - 3 * max ((j : Int) - 2) 0, (max ((j : Int) - 2) 0).toNat) := by decide
theorem turn_run (j : Nat) (h : j < 22) : ∃ l, runR (tf ((j : Int) - 2)) ((0, e0), 4) 80 = (0, 78 - 3 * max ((j : Int) - 2) 0, l) ∧ l.length = (max ((j : Int) - 2) 0).toNat := by
  have := turns_all j h
  unfold turnT at this
  injection this with h1 h2
  injection h2 with h2 h3
  exact ⟨_, Prod.ext h1 (Prod.ext h2 rfl), h3⟩
theorem much_1 : runR (tf 300) ((0, e0), 0) 2000 = (2, 0, []) := by decide +kernel
theorem much_2 : runR (tf 300) ((0, e0), 0) 300 = (10, 0, []) := by decide +kernel
def nf (n : Int) : Fo := .cons 1 n .nil (.cons 29 0 .nil .nil)
theorem none_run : runR (nf 4611686018427387904) ((0, e0), 0) 2 = (0, 0, []) := by
  have h1 : ev ((0, e0), 0) (nf 4611686018427387904) ⟨2, [], []⟩ = .ok ⟨0, [], []⟩ := by
    unfold nf
    rw [ev_ok (s' := ⟨1, [4611686018427387904], []⟩) (by decide) (stp_1 (by decide))]
    rw [ev_ok (s' := ⟨0, [], []⟩) (by decide) ((stp_B (.inr rfl) rfl).trans (rep_nil _ _ _))]
    rfl
  exact runR_4 (q := 2) (by decide +kernel) (by decide) (by decide) h1
abbrev in9 : Array Value := #[.int .i64 2, .int .i64 0, .slice none 0 0, .int .i64 4, .int .i64 0, .slice none 0 0, .int .i64 30, .int .i64 0, .slice none 0 0]
theorem fs_turn (W : World) (n : Int) (H1 H2 : Nat) (h1 : W.heap.size = H1) (h2 : W.heap.size + 1 = H2) :
    FS QA ((W.alloc (.cells #[.int .i64 2, .int .i64 0, .slice none 0 0, .int .i64 4, .int .i64 0, .slice none 0 0, .int .i64 30, .int .i64 0, .slice none 0 0] 33)).alloc (.cells #[.int .i64 1, .int .i64 n, .slice none 0 0, .int .i64 29, .int .i64 0, .slice (some ⟨H1, 0, none⟩) 3 3] 33)) (.slice (some ⟨H2, 0, none⟩) 2 2) (tf n) := by
  subst h1 h2
  have hB := (Below.refl (W.alloc (.cells in9 33)).heap.size (W.alloc (.cells in9 33))).alloc (Nat.le_refl _) (.cells #[.int .i64 1, .int .i64 n, .slice none 0 0, .int .i64 29, .int .i64 0, .slice (some ⟨W.heap.size, 0, none⟩) 3 3] 33)
  have hin : FS QA (W.alloc (.cells in9 33)) (.slice (some ⟨W.heap.size, 0, none⟩) 3 3) wakeF :=
    fs_new (l := [op0 2, op0 4, op0 30]) ⟨rfl, rfl, FS.nil _, rfl, rfl, FS.nil _, rfl, rfl, FS.nil _, trivial⟩ (heap_alloc_new W _)
  have hb := heap_alloc_new (W.alloc (.cells in9 33)) (.cells #[.int .i64 1, .int .i64 n, .slice none 0 0, .int .i64 29, .int .i64 0, .slice (some ⟨W.heap.size, 0, none⟩) 3 3] 33)
  rw [show (W.alloc (.cells in9 33)).heap.size = W.heap.size + 1 by simp] at hb
  exact fs_new (l := [(1, n, .slice none 0 0), (29, 0, .slice (some ⟨W.heap.size, 0, none⟩) 3 3)]) ⟨rfl, rfl, FS.nil _, rfl, rfl, hin.below hB, trivial⟩ hb
theorem wf_turn (n : Int) : WfB (tf n) := ⟨by decide, trivial, by decide, ⟨by decide, trivial, by decide, trivial, by decide, trivial, trivial⟩, trivial⟩
theorem bel_turn (W : World) (a b : Array Value) (T : TypeId) : Below W.heap.size W ((W.alloc (.cells a T)).alloc (.cells b T)) :=
  ((Below.refl W.heap.size W).alloc (Nat.le_refl _) _).alloc (by simp) _
set_option maxHeartbeats 4000000 in
theorem lawet (vs vl vr vf : Value) (l : List ByteArray) (f : Fo) (lr : List Rc) (lf : List Int) (w : World) (h : In8 w vs vl vr vf l f lr lf) :
    Calls Try.prog 5 #[.agg #[vs, vl, vr, vf]] w fun e w' => e = .returned (.bool true) ∧ Below w.heap.size w w' := by
  have Hn := hidM num8_any
  have HA0 := hidM (AskE.start h)
  have hlr := h.r.2.1
  obtain ⟨a, cap, hvs, _⟩ := h.s.1
  obtain ⟨a', cap', hvl⟩ := h.f.1.val
  obtain ⟨ar, capr, hvr, _⟩ := h.r.1
  obtain ⟨af, capf, hvf, _⟩ := h.n.1
  subst hvs hvl hvr hvf
  clear h
  go_enter Try.func5, Try.ntmps5
  go_wp2
  go_loopw [3] (fun i wr => ∃ j : Nat, j ≤ 22 ∧ i = .int .i64 ((j : Int) - 2) ∧ AskE (.slice a l.length cap) (.slice a' f.len cap') (.slice ar lr.length capr) (.slice af lf.length capf) l f lr lf w wr) (fun i _ => (20 - intOf i).toNat)
  case atStart => exact ⟨0, by omega, rfl, HA0.out⟩
  case round =>
    obtain ⟨j, hj, rfl, hA⟩ := hrel
    have HB := hidM hA
    have hwr0 := hA.lt
    by_cases hlt : j < 22
    · obtain ⟨ll, hT, hll⟩ := turn_run j hlt
      have hr1 := run_any (tf ((j : Int) - 2)) _ _ ((0, e0), 4) 80 (fs_turn wr ((j : Int) - 2) wr.heap.size (wr.heap.size + 1) rfl rfl) (show (2 : Nat) ≤ _ by decide) (wf_turn _) (by decide)
      rw [hT] at hr1
      have HR1 := hidM hr1
      have HBt := hidM (bel_turn wr #[.int .i64 2, .int .i64 0, .slice none 0 0, .int .i64 4, .int .i64 0, .slice none 0 0, .int .i64 30, .int .i64 0, .slice none 0 0] #[.int .i64 1, .int .i64 ((j : Int) - 2), .slice none 0 0, .int .i64 29, .int .i64 0, .slice (some ⟨wr.heap.size, 0, none⟩) 3 3] 33)
      have hj20 : (j : Int) - 2 < 20 := by omega
      have hll2 : ((ll.length : Nat) : Int) = max ((j : Int) - 2) 0 := by omega
      have HLL := hidM hll2
      obtain ⟨n, hnn⟩ : ∃ n : Int, (j : Int) - 2 = n := ⟨_, rfl⟩
      have HNN := hidM hnn
      have hn1 : -2 ≤ n := by omega
      rw [hnn] at HR1 HBt hj20 HLL ⊢
      clear hA hT hr1 hll hll2 hnn
      by_cases hneg : n < 0
      · have hmx : max n 0 = 0 := by omega
        rw [hmx] at HR1 HLL
        clear hmx
        go_wp2_with fail
        refine HR1.out.mono ?_
        rintro e wA ⟨vA, heA, hownA, hbA⟩
        simp only at heA hownA
        subst heA
        obtain ⟨aA, capA, rfl⟩ := row_val hownA
        have HBA := hidM (HB.out.call (HBt.out.trans (hbA.mono (by simp; omega))))
        have hl0 : ll.length = 0 := by have := HLL.out; omega
        rw [hl0]
        clear hownA hbA HR1
        go_wp2_with (go_at_call 8; refine (Hn.out _ _).mono ?_; rintro e w' ⟨rfl, rfl⟩)
        go_roundw
        case rel => exact ⟨j + 1, by omega, by have := HNN.out; (first | go_num | (congr 1; omega)), HBA.out⟩
        case measure => simp [intOf]; omega
      · have hpos : 0 ≤ n := by omega
        have hmx : max n 0 = n := by omega
        rw [hmx] at HR1 HLL
        clear hmx hneg
        go_wp2_with fail
        refine HR1.out.mono ?_
        rintro e wA ⟨vA, heA, hownA, hbA⟩
        simp only at heA hownA
        subst heA
        obtain ⟨aA, capA, rfl⟩ := row_val hownA
        have HBA := hidM (HB.out.call (HBt.out.trans (hbA.mono (by simp; omega))))
        have hl0 : ((ll.length : Nat) : Int) = n := HLL.out
        clear hownA hbA HR1
        go_wp2_with (go_at_call 8; refine (Hn.out _ _).mono ?_; rintro e w' ⟨rfl, rfl⟩)
        go_roundw
        case rel => exact ⟨j + 1, by omega, by have := HNN.out; (first | go_num | (congr 1; omega)), HBA.out⟩
        case measure => simp [intOf]; omega
    · have hj22 : j = 22 := by omega
      subst hj22
      clear hlt hj
      have hr1 := run_any (tf 300) _ _ ((0, e0), 0) 2000 (fs_turn wr 300 wr.heap.size (wr.heap.size + 1) rfl rfl) (show (2 : Nat) ≤ _ by decide) (wf_turn _) (by decide)
      rw [much_1] at hr1
      have HR1 := hidM hr1
      have HF1 := hidM (fs_turn wr 300 wr.heap.size (wr.heap.size + 1) rfl rfl)
      have HBt := hidM (bel_turn wr #[.int .i64 2, .int .i64 0, .slice none 0 0, .int .i64 4, .int .i64 0, .slice none 0 0, .int .i64 30, .int .i64 0, .slice none 0 0] #[.int .i64 1, .int .i64 300, .slice none 0 0, .int .i64 29, .int .i64 0, .slice (some ⟨wr.heap.size, 0, none⟩) 3 3] 33)
      clear hA hr1
      go_wp2_with fail
      refine HR1.out.mono ?_
      rintro e wA ⟨vA, heA, hownA, hbA⟩
      simp only at heA hownA
      subst heA
      obtain ⟨aA, capA, rfl⟩ := row_val hownA
      simp only [List.length_nil] at hownA ⊢
      have HBA := hidM (HB.out.call (HBt.out.trans (hbA.mono (by simp; omega))))
      have hr2 := run_any (tf 300) _ wA ((0, e0), 0) 300 (HF1.out.below hbA) (show (2 : Nat) ≤ _ by decide) (wf_turn _) (by decide)
      rw [much_2] at hr2
      have HR2 := hidM hr2
      clear hownA hbA HR1 hr2
      go_wp2_with fail
      refine HR2.out.mono ?_
      rintro e wB ⟨vB, heB, hownB, hbB⟩
      simp only at heB hownB
      subst heB
      obtain ⟨aB, capB, rfl⟩ := row_val hownB
      simp only [List.length_nil] at hownB ⊢
      have HBB := hidM (HBA.out.call hbB)
      have hfs3 : FS QA (wB.alloc (.cells #[.int .i64 1, .int .i64 4611686018427387904, .slice none 0 0, .int .i64 29, .int .i64 0, .slice none 0 0] 33)) (.slice (some ⟨wB.heap.size, 0, none⟩) 2 2) (nf 4611686018427387904) :=
        fs_new (l := [(1, 4611686018427387904, .slice none 0 0), op0 29]) ⟨rfl, rfl, FS.nil _, rfl, rfl, FS.nil _, trivial⟩ (heap_alloc_new wB _)
      have hr3 := run_any (nf 4611686018427387904) _ _ ((0, e0), 0) 2 hfs3 (show (2 : Nat) ≤ _ by decide) ⟨by decide, trivial, by decide, trivial, trivial⟩ (by decide)
      rw [none_run] at hr3
      have HR3 := hidM hr3
      have HBc := hidM (HBB.out.call ((Below.refl wB.heap.size wB).alloc (Nat.le_refl _) (.cells #[.int .i64 1, .int .i64 4611686018427387904, .slice none 0 0, .int .i64 29, .int .i64 0, .slice none 0 0] 33)))
      clear hownB hbB HR2 hr3 hfs3
      go_wp2_with fail
      refine HR3.out.mono ?_
      rintro e wC ⟨vC, heC, hownC, hbC⟩
      simp only at heC hownC
      subst heC
      obtain ⟨aC, capC, rfl⟩ := row_val hownC
      simp only [List.length_nil] at hownC ⊢
      have HBC := hidM (HBc.out.call hbC)
      obtain ⟨c0, c1, c2, c3⟩ := HBC.out.cells
      have Hw := hidM (wakes8_any wC)
      have hlr0 : (0 : Int) ≤ lr.length := by omega
      clear hownC hbC HR3
      go_wp2_with (first | (go_at_call 8; refine (Hn.out _ _).mono ?_; rintro e w' ⟨rfl, rfl⟩) | (go_at_call 9; refine Hw.out.mono ?_))
      rintro e w9 ⟨rfl, hb9⟩
      have hfin := (HBC.out.call hb9).out
      go_wp2
      go_ret
      exact ⟨rfl, hfin⟩
end Go.Proofs.Ytkmnpaiippgnmab
