/- The page's own Fold, Recs. -/
import Derived.Test.YticpaemmdfmbfaaJ34
namespace Go.Proofs.Yticpaemmdfmbfaa
open Go.RowKit
set_option linter.unusedVariables false
set_option maxRecDepth 100000

set_option maxHeartbeats 800000 in
theorem rrecs_any (v : Value) (l : List Rc) (w : World) (h : RS w v l) (hl : l.length ≤ 100000) : Calls Try.prog 25 #[v] w (BoolR w (keysOk l)) := by
  have HK := hidM (fun (x : Ky) W => rkey_any x W)
  rcases h.shape with ⟨a, cap, rfl, rfl⟩ | ⟨b, off, cap, rfl, hb, hat⟩
  · go_enter Try.func25, Try.ntmps25
    go_wp2
    go_loop [3] (fun i => i = .int .i64 0) (fun _ => 0)
    case atStart => rfl
    case round =>
      subst hrel
      go_wp2
      go_ret
      exact ⟨rfl, Below.refl _ _⟩
  · go_enter Try.func25, Try.ntmps25
    go_wp2
    go_loopw [3] (fun i wr => ∃ k : Nat, k ≤ l.length ∧ i = .int .i64 k ∧ keysOk (l.take k) = true ∧ Below w.heap.size w wr) (fun i _ => l.length - (intOf i).toNat)
    case atStart => exact ⟨0, by omega, rfl, rfl, Below.refl _ _⟩
    case round =>
      rename World => w0
      obtain ⟨k, hk, rfl, hok, hbel⟩ := hrel
      have hsz := hbel.size
      by_cases hlt : k < l.length
      · obtain ⟨⟨⟨ya, yb⟩, yv⟩, hy⟩ := getSome hlt
        obtain ⟨c0, c1, c2⟩ := hat.below hbel hb k _ hy
        simp only at c0 c1 c2
        have HC := HK.out (ya, yb)
        have HB := hidM (hbel)
        by_cases hs : yb.size ≤ 64
        · rw [show decide ((ya, yb).2.size ≤ 64) = true from decide_eq_true hs] at HC
          have hok2 := keysOk_step hok hy hs
          clear HK
          go_wp2_with (go_at_call 46; refine (HC _).mono ?_; rintro e W2 ⟨rfl, hb2⟩)
          go_roundw
          case rel => exact ⟨k + 1, by omega, by go_num, hok2, nxt HB.out hb2⟩
          case measure => simp [intOf]; omega
        · rw [show decide ((ya, yb).2.size ≤ 64) = false from decide_eq_false hs] at HC
          have hbad := hidM (keysOk_bad hy hs)
          clear HK
          go_wp2_with (go_at_call 46; refine (HC _).mono ?_; rintro e W2 ⟨rfl, hb2⟩)
          go_ret
          exact ⟨by rw [hbad.out]; rfl, nxt HB.out hb2⟩
      · have hlt' : l.length ≤ k := by omega
        rw [List.take_of_length_le hlt'] at hok
        go_wp2
        go_ret
        exact ⟨by rw [hok]; rfl, hbel⟩
theorem ones_snoc (agg : Int) {l : List Rc} {k : Nat} {x : Rc} (hx : l[k]? = some x) : ones agg (l.take (k + 1)) = ones agg (l.take k) ++ [(x.1, oneC agg x.2)] := by
  rw [List.take_add_one, hx]
  unfold ones
  simp
theorem ones_len (agg : Int) (l : List Rc) : (ones agg l).length = l.length := by unfold ones; simp
set_option maxHeartbeats 1600000 in
theorem rfold_any (agg bound : Int) (v : Value) (l : List Rc) (w : World) (h : RS w v l) (hwf : Wf l) (hl : l.length ≤ 100000) (hw : wayC agg bound = true) :
    Calls Try.prog 13 #[.int .i64 agg, .int .i64 bound, v] w (RowsR w w.heap.size (fin (foldR agg bound.toNat l))) := by
  obtain ⟨va, vc, rfl, hsh⟩ := h
  have HG := hidM (fun (W : World) (u : Value) (hu : WS W u (ones agg l)) => rgather_any agg bound u (ones agg l) W hu ⟨fun r hr => by
    unfold ones at hr
    obtain ⟨y, hy, rfl⟩ := List.mem_map.1 hr
    exact okC_one hw ⟨(hwf y hy).v1, (hwf y hy).v2⟩⟩ (by rw [ones_len]; exact hl))
  go_enter Try.func13, Try.ntmps13
  go_wp2
  go_loopw [8, 9] (fun vo i wr => ∃ k : Nat, k ≤ l.length ∧ i = .int .i64 k ∧ OwnW wr w.heap.size vo (ones agg (l.take k)) ∧ Below w.heap.size w wr) (fun _ i _ => l.length - (intOf i).toNat)
  case atStart => exact ⟨0, by omega, rfl, OwnW.nil _ _, Below.refl _ _⟩
  case round =>
    rename World => w0
    obtain ⟨k, hk, rfl, ho, hbel⟩ := hrel
    have hsz := hbel.size
    by_cases hlt : k < l.length
    · obtain ⟨⟨⟨ya, yb⟩, yv⟩, hy⟩ := getSome hlt
      rcases hsh with rfl | ⟨b, off, rfl, hb, hat⟩
      · simp at hlt
      have hbl : b < w0.heap.size := by omega
      have HY := hidM (show ∀ W, Below w.heap.size w W → W.cell? ⟨b, off + k * 3, none⟩ = some (.int .i64 ya) ∧ W.cell? ⟨b, off + k * 3 + 1, none⟩ = some (.string yb) ∧ W.cell? ⟨b, off + k * 3 + 2, none⟩ = some (.int .i64 yv) ∧ Below w.heap.size w W from fun W hW => by
        obtain ⟨c0, c1, c2⟩ := hat.below hW hb k _ hy
        exact ⟨c0, c1, c2, hW⟩)
      have HO := hidM (fun W => rone_any agg yv W)
      have HBEL := hidM hbel
      obtain ⟨xs, hx, ha⟩ := ho
      have hxl : xs.length = k := by rw [ha.1, ones_len, List.length_take]; omega
      have hst : ∀ (W : World) (o : Obj), Below W.heap.size W (W.alloc o) := fun W o => (Below.refl _ _).alloc (Nat.le_refl _) _
      have HT := hidM (show ∀ (W2 : World) (a2 : Option Addr) (c2 : Nat), Below w0.heap.size w0 W2 → OwnL W2 w0.heap.size (.slice a2 (oneC agg yv).2.length c2) (oneC agg yv).2 → ∃ v4 W4, (Builtin.append_ #[28, 28] 28 #[u8, .slice (some ⟨W2.heap.size, 0, none⟩) 1 1]).run Try.prog (W2.alloc (.cells #[.int .i64 ya, .string yb, .int .i64 (oneC agg yv).1, .slice a2 (oneC agg yv).2.length c2] 67)) = .ok v4 W4 ∧ OwnW W4 w.heap.size v4 (ones agg (l.take (k + 1))) ∧ Below w.heap.size w W4 from fun W2 a2 c2 hb2 ho2 => by
        have X3 := (hx.below hb2).below (hst W2 (.cells #[.int .i64 ya, .string yb, .int .i64 (oneC agg yv).1, .slice a2 (oneC agg yv).2.length c2] 67))
        have G3 := nxt hb2 (hst W2 (.cells #[.int .i64 ya, .string yb, .int .i64 (oneC agg yv).1, .slice a2 (oneC agg yv).2.length c2] 67))
        have O3 := ho2.below (hst W2 (.cells #[.int .i64 ya, .string yb, .int .i64 (oneC agg yv).1, .slice a2 (oneC agg yv).2.length c2] 67))
        obtain ⟨v4, W4, u1, X4, u3, -⟩ := append_xs 28 X3 (XS.new W2 ((ya, yb), (oneC agg yv).1, (a2, (oneC agg yv).2.length, c2))) (by simp; omega) (by have := G3.size; omega)
        have hk3 := keep_row X3 u3
        refine ⟨v4, W4, u1, ⟨_, X4, ?_⟩, (hbel.trans (G3.mono hsz)).grown u3 (by have := G3.size; omega) (own_row X3)⟩
        rw [ones_snoc agg hy]
        exact ((ha.keep (.below G3)).keep hk3).snoc ⟨rfl, rfl, (O3.keep hk3).lower hsz⟩)
      clear hat hbel ha hx hst HG
      go_wp2
      go_region_held3 (fun W => W.cell? ⟨b, off + k * 3, none⟩ = some (.int .i64 ya) ∧ W.cell? ⟨b, off + k * 3 + 1, none⟩ = some (.string yb) ∧ W.cell? ⟨b, off + k * 3 + 2, none⟩ = some (.int .i64 yv) ∧ Below w.heap.size w W)
        (first
          | exact HY.out _ HBEL.out.drew
          | exact HY.out _ (HBEL.out.drew.trans (hb2.mono hsz))
          | exact HY.out _ ((HBEL.out.drew.trans (hb2.mono hsz)).alloc (HBEL.out.drew.trans (hb2.mono hsz)).size _)
          | exact HY.out _ hbel4)
        (first
          | (go_at_call 37; refine (HO.out _).mono ?_; rintro e W2 ⟨⟨v2, rfl, a2, c2, rfl, ho2⟩, hb2⟩; obtain ⟨v4, W4, u1, hown4, hbel4⟩ := HT.out W2 a2 c2 (nxt ((Below.refl w0.heap.size w0).drew) hb2) ho2; have U1 := hidM u1; clear u1)
          | (refine step_append_run _ (by rfl) _ _ _ (by rfl) _ _ v4 W4 (by rfl) (by rfl) U1.out ?_))
      go_wp2
      go_roundw
      case rel => exact ⟨k + 1, by omega, by go_num, hown4, hbel4⟩
      case measure => simp [intOf]; omega
    · have hlt' : l.length ≤ k := by omega
      rw [List.take_of_length_le hlt'] at ho
      have HR := hidM (HG.out w0 _ ho.ws)
      have HBEL := hidM hbel
      clear HG
      go_wp2_with (go_at_call 38; refine HR.out.mono ?_; rintro e w' ⟨⟨v', rfl, ho'⟩, hb'⟩)
      go_ret2
      exact ⟨⟨_, rfl, ho'.lower hsz⟩, HBEL.out.trans (hb'.mono hsz)⟩
end Go.Proofs.Yticpaemmdfmbfaa
