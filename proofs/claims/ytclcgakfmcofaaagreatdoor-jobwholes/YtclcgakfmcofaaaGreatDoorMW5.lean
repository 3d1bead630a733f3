import Derived.Test.YtclcgakfmcofaaaGreatDoorMW3
import Derived.Test.YtclcgakfmcofaaaGreatDoorMW4
set_option linter.unusedVariables false
set_option maxRecDepth 100000
set_option maxHeartbeats 800000
namespace Go.Proofs.YtclcgakfmcofaaaGreatDoor
open Go.RowKit
theorem aq (w : World) (g q : Nat) (u : Value) : w.grownBy (w.setCell ⟨g, q, none⟩ u) (some g) :=
 ⟨rfl, rfl, rfl, by simp [World.setCell], fun k hk hne => Below.heap_setCell _ _ _ _ (fun e => hne (by rw [e]))⟩
theorem aH.set {W : World} {b : Nat} {n m : Int} {v u : Value} (h : aH W b n v) : aH ((W.setCell ⟨b, 0, none⟩ (.int .i64 m)).setCell ⟨b, 1, none⟩ u) b m u := by
 unfold aH at h ⊢
 simp only [World.setCell, Array.getElem?_modify, h]
 simp
theorem aH.set0 {W : World} {b : Nat} {n : Int} (m : Int) {v : Value} (h : aH W b n v) : aH (W.setCell ⟨b, 0, none⟩ (.int .i64 m)) b m v := by
 unfold aH at h ⊢
 simp only [World.setCell, Array.getElem?_modify, h]
 simp
theorem bN {w W : World} {b : Nat} (h : Below w.heap.size w W) (hb : w.heap.size ≤ b) (m : Int) (u : Value) : Below w.heap.size w ((W.setCell ⟨b, 0, none⟩ (.int .i64 m)).setCell ⟨b, 1, none⟩ u) := by
 refine ⟨h.os, h.tape, h.output, by simp [World.setCell]; exact h.size, fun k hk => ?_⟩
 rw [Below.heap_setCell _ _ _ _ (by show k ≠ b; omega), Below.heap_setCell _ _ _ _ (by show k ≠ b; omega)]
 exact h.block k hk
theorem fW {W : World} {base b : Nat} {v : Value} {l : List Int} (h : ay W base v l) (hb : b < base) (m : Int) (u : Value) : ay ((W.setCell ⟨b, 0, none⟩ (.int .i64 m)).setCell ⟨b, 1, none⟩ u) base v l := by
 have one : ∀ (W : World) (o : Nat) (x : Value), ay W base v l → ay (W.setCell ⟨b, o, none⟩ x) base v l := fun W o x h => h.kept (aq _ _ _ _) (.inr fun e => by have := aW h b e; omega)
 exact one _ _ _ (one _ _ _ h)
theorem mu {w W1 W2 W3 W4 : World} {v2 : Value} {l2 l3 : List Int} (hb1 : Below w.heap.size w W1) (hB1 : aH W1 w.heap.size 0 (.slice none 0 0)) (hz : W1.heap.size = w.heap.size + 2) (hb2 : Below W1.heap.size W1 W2) (ho2 : ay W2 W1.heap.size v2 l2) (ho3 : ay W3 W1.heap.size v2 l3) (hg3 : W2.grownBy W3 v2.ownBlock) (hg4 : W3.grownBy W4 v2.ownBlock) :
  aH W4 w.heap.size 0 (.slice none 0 0) ∧ Below w.heap.size w W4 := by
 have b3 : Below W1.heap.size W1 W3 := hb2.grown hg3 hb2.size (aW ho2)
 have b4 : Below W1.heap.size W1 W4 := b3.grown hg4 b3.size (aW ho3)
 exact ⟨hB1.below b4, ag hb1 b4⟩
def gA (bound : Nat) (a b : List Int) : Cl × Int := if (uni a b).length ≤ bound then ((0, uni a b), 0) else ((0, []), 11)
theorem joinSets_any (bound : Nat) (va vb : Value) (a b : List Int) (w : World) (ha : NS w va a) (hb : NS w vb b) (hr : bl b) (hla : a.length ≤ 50000) (hlb : b.length ≤ 50000) :
  Calls Tryz.prog 198 #[.int .i64 (bound : Int), va, vb] w (fE w (gA bound a b).1 (gA bound a b).2) := by
 obtain ⟨W1, hW1⟩ : ∃ W1 : World, W1 = (w.alloc (.cells #[.int .i64 0, .slice none 0 0] 127)).alloc (.cells #[va, vb] 125) := ⟨_, rfl⟩
 have hb1 : Below w.heap.size w W1 := by rw [hW1]; exact ((Below.refl _ _).alloc (Nat.le_refl _) _).alloc (by simp) _
 have hsz : W1.heap.size = w.heap.size + 2 := by rw [hW1]; simp
 have hB1 : aH W1 w.heap.size 0 (.slice none 0 0) := by rw [hW1]; exact (aH.new w _ _).below ((Below.refl _ _).alloc (Nat.le_refl _) _)
 have hblk : W1.heap[w.heap.size + 1]? = some (.cells #[va, vb] 125 (0, 0)) := by
  have := heap_alloc_new (w.alloc (.cells #[.int .i64 0, .slice none 0 0] 127)) (.cells #[va, vb] 125)
  rw [← hW1] at this
  simpa using this
 have H1 := ae (concat_any (w.heap.size + 1) va vb a b W1 (by omega) (by simp [World.cell?, hblk]) (by simp [World.cell?, hblk]) (ha.below hb1) (hb.below hb1) (by omega) (by omega))
 have H2 := ae (fun v W (h : ay W W1.heap.size v (a ++ b)) => sort_own v W1.heap.size (a ++ b) W h (by rw [List.length_append]; omega))
 have H3 := ae (fun v W (h : ay W W1.heap.size v ((a ++ b).mergeSort jn)) => compact_own v W1.heap.size _ W h (by rw [(List.mergeSort_perm (a ++ b) jn).length_eq, List.length_append]; omega))
 rw [jC a b hr] at H3
 have HB1 := ae hb1
 have HC1 := ae hB1
 have HW := ae hW1
 have HZ := ae hsz
 unfold gA
 generalize uni a b = u at *
 obtain ⟨aa, ca, rfl, -⟩ := ha
 obtain ⟨ab, cb, rfl, -⟩ := hb
 clear hb1 hB1 hblk hsz
 by_cases hle : u.length ≤ bound
 ·rw [if_pos hle]
  go_enter Tryz.func198, Tryz.ntmps198
  go_wp2_with (go_at_call 229; rw [← HW.out]; refine H1.out.mono ?_; rintro e W2 ⟨⟨v2, rfl, ho2⟩, hb2⟩)
  go_wp2_with (go_at_call 230; refine (H2.out _ _ ho2).mono ?_; rintro e W3 ⟨rfl, ho3, hg3⟩)
  go_wp2_with (go_at_call 231; refine (H3.out _ _ ho3).mono ?_; rintro e W4 ⟨⟨v4, rfl, ho4, hv4⟩, hg4⟩; obtain ⟨a4, c4, rfl⟩ := ho4.shape; obtain ⟨hB4, hb4⟩ := mu HB1.out HC1.out HZ.out hb2 ho2 ho3 hg3 hg4; obtain ⟨c0, c1, f0, f1⟩ := hB4.cells; obtain ⟨-, c1', -, f1'⟩ := (hB4.set0 0).cells)
  exact bodyPost_ret (ar rfl rfl hB4.set.load) rfl ⟨⟨_, rfl, _, _, rfl, (fW ho4 (by have := HZ.out; omega) _ _).lower (by have := HZ.out; omega)⟩, bN hb4 (Nat.le_refl _) _ _⟩
 ·rw [if_neg hle]
  go_enter Tryz.func198, Tryz.ntmps198
  go_wp2_with (go_at_call 229; rw [← HW.out]; refine H1.out.mono ?_; rintro e W2 ⟨⟨v2, rfl, ho2⟩, hb2⟩)
  go_wp2_with (go_at_call 230; refine (H2.out _ _ ho2).mono ?_; rintro e W3 ⟨rfl, ho3, hg3⟩)
  go_wp2_with (go_at_call 231; refine (H3.out _ _ ho3).mono ?_; rintro e W4 ⟨⟨v4, rfl, ho4, hv4⟩, hg4⟩; obtain ⟨a4, c4, rfl⟩ := ho4.shape; obtain ⟨hB4, hb4⟩ := mu HB1.out HC1.out HZ.out hb2 ho2 ho3 hg3 hg4; obtain ⟨c0, c1, f0, f1⟩ := hB4.cells; obtain ⟨-, c1', -, f1'⟩ := (hB4.set0 0).cells)
  exact bodyPost_ret (ar rfl rfl hB4.set.load) rfl ⟨⟨_, rfl, iQ.num _ _ _⟩, bN hb4 (Nat.le_refl _) _ _⟩
end Go.Proofs.YtclcgakfmcofaaaGreatDoor
