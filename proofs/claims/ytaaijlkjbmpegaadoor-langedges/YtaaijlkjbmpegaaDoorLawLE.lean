/- LangEdges: the walk. -/
import Derived.Test.YtaaijlkjbmpegaaDoorLLaw
import Derived.Test.YtaaijlkjbmpegaaDoorLEPlain
import Derived.Test.YtaaijlkjbmpegaaDoorLZero
import Derived.Deep.Cut
import Derived.Deep.CutRange
import Derived.Deep.CutBlock
namespace Go.Proofs.YtaaijlkjbmpegaaDoor
open Go.RowKit Go.Shelf
set_option linter.unusedVariables false
set_option maxRecDepth 100000

/-- Strings and numbers that lie in a block. -/
def StrB (w : World) (g : Nat) (l : List ByteArray) : Prop := g < w.heap.size ∧ ∀ j x, l[j]? = some x → w.cell? ⟨g, j, none⟩ = some (.string x)
theorem StrB.below {w w' : World} {g : Nat} {l : List ByteArray} (h : StrB w g l) (hb : Below w.heap.size w w') : StrB w' g l :=
  ⟨Nat.lt_of_lt_of_le h.1 hb.size, fun j x hx => (hb.cell (p := ⟨g, j, none⟩) h.1).trans (h.2 j x hx)⟩
theorem size_alloc1 (W : World) (o : Obj) : (W.alloc o).heap.size = W.heap.size + 1 := by simp
theorem strB_new (W : World) (l : List ByteArray) (T : TypeId) : StrB (W.alloc (.cells ((l.map Value.string).toArray) T)) W.heap.size l := by
  refine ⟨by simp, fun j x hx => ?_⟩
  rw [World.cell?_alloc_new]
  simp [hx]
/-- Numbers that lie in a block. -/
def NumB (w : World) (g : Nat) (l : List Int) : Prop := g < w.heap.size ∧ ∀ j x, l[j]? = some x → w.cell? ⟨g, j, none⟩ = some (.int .i64 x)
theorem NumB.below {w w' : World} {g : Nat} {l : List Int} (h : NumB w g l) (hb : Below w.heap.size w w') : NumB w' g l :=
  ⟨Nat.lt_of_lt_of_le h.1 hb.size, fun j x hx => (hb.cell (p := ⟨g, j, none⟩) h.1).trans (h.2 j x hx)⟩
theorem numB_new (W : World) (l : List Int) (T : TypeId) : NumB (W.alloc (.cells ((l.map (Value.int .i64)).toArray) T)) W.heap.size l := by
  refine ⟨by simp, fun j x hx => ?_⟩
  rw [World.cell?_alloc_new]
  simp [hx]
set_option maxHeartbeats 1600000 in
theorem lawle (vs vl : Value) (l : List ByteArray) (f : Fo) (w : World) (hS : SS w vs l ∧ List.length l ≤ 8796093021952 ∧ WfS l) (hF : FS QA w vl f ∧ f.len ≤ 3518437208780 ∧ WfB f ∧ WfN f) (hE : Env w) :
    Calls Tryd.prog 6 #[.agg #[vs, vl]] w fun e w' => e = .returned (.bool true) ∧ Below w.heap.size w w' := by
  have HA0 := hidA (AskRel.start hS.1 hF.1 hE)
  have Hn := hidA num_any
  obtain ⟨a, cap, rfl, _⟩ := hS.1
  obtain ⟨a', cap', rfl⟩ := hF.1.val
  clear hS hF hE
  go_enter Tryd.func6, Tryd.ntmps6
  go_wp2
  go_loop [3, 6] (fun s i => ∃ k : Nat, k ≤ 128 ∧ i = .int .i64 k ∧ s = .string (ba (reps [97, 32] k))) (fun _ i => 128 - (intOf i).toNat)
  case atStart => exact ⟨0, by omega, rfl, rfl⟩
  case round =>
    obtain ⟨k, hk, rfl, rfl⟩ := hrel
    by_cases hlt : k < 128
    · have hki : (k : Int) < 128 := by omega
      have hadd : ∀ W, (Op.stringOp .add (ba (reps [97, 32] k)) ⟨#[97, 32]⟩).run Tryd.prog W = .ok (.string (ba (reps [97, 32] (k + 1)))) W := add_ba (reps [97, 32] k) [97, 32] (by rw [reps_len]; simp; omega)
      go_wp2
      go_round
      case rel => exact ⟨k + 1, by omega, by go_num, rfl⟩
      case measure => simp [intOf]; omega
    · obtain rfl : k = 128 := by omega
      obtain ⟨so, hso⟩ : ∃ so, ba (reps [97, 32] 128) = so := ⟨_, rfl⟩
      rw [hso]
      have HSO := hidA hso
      clear hso hk hlt
      go_wp2
      go_loop [4, 5, 7] (fun s t i => ∃ k : Nat, k ≤ 6 ∧ i = .int .i64 k ∧ s = .string (ba (reps [105, 102, 32, 91, 32] k)) ∧ t = .string (ba (reps [93, 32] k))) (fun _ _ i => 6 - (intOf i).toNat)
      case atStart => exact ⟨0, by omega, rfl, rfl, rfl⟩
      case round =>
        obtain ⟨k, hk, rfl, rfl, rfl⟩ := hrel
        by_cases hlt : k < 6
        · have hki : (k : Int) < 6 := by omega
          have hadd : ∀ W, (Op.stringOp .add (ba (reps [105, 102, 32, 91, 32] k)) ⟨#[105, 102, 32, 91, 32]⟩).run Tryd.prog W = .ok (.string (ba (reps [105, 102, 32, 91, 32] (k + 1)))) W := add_ba (reps [105, 102, 32, 91, 32] k) [105, 102, 32, 91, 32] (by rw [reps_len]; simp; omega)
          have hadd2 : ∀ W, (Op.stringOp .add (ba (reps [93, 32] k)) ⟨#[93, 32]⟩).run Tryd.prog W = .ok (.string (ba (reps [93, 32] (k + 1)))) W := add_ba (reps [93, 32] k) [93, 32] (by rw [reps_len]; simp; omega)
          go_wp2
          go_round
          case rel => exact ⟨k + 1, by omega, by go_num, rfl, rfl⟩
          case measure => simp [intOf]; omega
        · obtain rfl : k = 6 := by omega
          clear hk hlt
          have hadd : ∀ W, (Op.stringOp .add (ba (reps [105, 102, 32, 91, 32] 6)) (ba (reps [93, 32] 6))).run Tryd.prog W = .ok (.string (ba (deepL ++ shutL))) W := add_ba deepL shutL (by decide)
          have hadd2 : ∀ W, (Op.stringOp .add (ba (reps [105, 102, 32, 91, 32] 6)) ⟨#[105, 102, 32, 91, 32, 93, 32]⟩).run Tryd.prog W = .ok (.string (ba (deepL ++ [105, 102, 32, 91, 32, 93, 32]))) W := add_ba deepL [105, 102, 32, 91, 32, 93, 32] (by decide)
          have hadd3 : ∀ W, (Op.stringOp .add (ba (deepL ++ [105, 102, 32, 91, 32, 93, 32])) (ba (reps [93, 32] 6))).run Tryd.prog W = .ok (.string (ba (deepL ++ [105, 102, 32, 91, 32, 93, 32] ++ shutL))) W := add_ba (deepL ++ [105, 102, 32, 91, 32, 93, 32]) shutL (by decide)
          have hadd4 : ∀ W, (Op.stringOp .add so ⟨#[97]⟩).run Tryd.prog W = .ok (.string (ba (opsL ++ [97]))) W := by rw [← HSO.out]; exact add_ba opsL [97] (by decide)
          generalize ba (reps [105, 102, 32, 91, 32] 6) = sd at hadd hadd2 ⊢
          generalize ba (reps [93, 32] 6) = ss at hadd hadd3 ⊢
          generalize hg3 : ba (deepL ++ shutL) = g3 at hadd ⊢
          generalize hb1 : ba (deepL ++ [105, 102, 32, 91, 32, 93, 32] ++ shutL) = b1 at hadd3 ⊢
          generalize ba (deepL ++ [105, 102, 32, 91, 32, 93, 32]) = b1' at hadd2 hadd3 ⊢
          generalize hb0 : ba (opsL ++ [97]) = b0 at hadd4 ⊢
          have HG3 := hidA hg3
          have HB1 := hidA hb1
          have HB0 := hidA hb0
          clear hg3 hb1 hb0
          go_wp2
          have hb0 := (Below.refl (w.alloc (.cells #[.slice a l.length cap, .slice a' f.len cap'] 25)).heap.size (w.alloc (.cells #[.slice a l.length cap, .slice a' f.len cap'] 25))).alloc (Nat.le_refl _) (.cells #[.string ⟨#[]⟩, .string ⟨#[32]⟩, .string so, .string g3, .string ⟨#[57, 50, 50, 51, 51, 55, 50, 48, 51, 54, 56, 53, 52, 55, 55, 53, 56, 48, 55, 32, 45, 57, 50, 50, 51, 51, 55, 50, 48, 51, 54, 56, 53, 52, 55, 55, 53, 56, 48, 56]⟩, .string ⟨#[114, 101, 112, 32, 91, 32, 93]⟩] 9)
          have HA1 := hidA (HA0.out.call hb0)
          have HST : Hid (StrB ((w.alloc (.cells #[.slice a l.length cap, .slice a' f.len cap'] 25)).alloc (.cells #[.string ⟨#[]⟩, .string ⟨#[32]⟩, .string so, .string g3, .string ⟨#[57, 50, 50, 51, 51, 55, 50, 48, 51, 54, 56, 53, 52, 55, 55, 53, 56, 48, 55, 32, 45, 57, 50, 50, 51, 51, 55, 50, 48, 51, 54, 56, 53, 52, 55, 55, 53, 56, 48, 56]⟩, .string ⟨#[114, 101, 112, 32, 91, 32, 93]⟩] 9)) (w.heap.size + 1) (goodL.map ba)) := by
            unfold Hid
            rw [show goodL.map ba = [⟨#[]⟩, ⟨#[32]⟩, so, g3, ⟨#[57, 50, 50, 51, 51, 55, 50, 48, 51, 54, 56, 53, 52, 55, 55, 53, 56, 48, 55, 32, 45, 57, 50, 50, 51, 51, 55, 50, 48, 51, 54, 56, 53, 52, 55, 55, 53, 56, 48, 56]⟩, ⟨#[114, 101, 112, 32, 91, 32, 93]⟩] by rw [← HSO.out, ← HG3.out]; rfl]
            have h := strB_new (w.alloc (.cells #[.slice a l.length cap, .slice a' f.len cap'] 25)) [⟨#[]⟩, ⟨#[32]⟩, so, g3, ⟨#[57, 50, 50, 51, 51, 55, 50, 48, 51, 54, 56, 53, 52, 55, 55, 53, 56, 48, 55, 32, 45, 57, 50, 50, 51, 51, 55, 50, 48, 51, 54, 56, 53, 52, 55, 55, 53, 56, 48, 56]⟩, ⟨#[114, 101, 112, 32, 91, 32, 93]⟩] 9
            rw [size_alloc1] at h
            exact h
          clear hb0
          go_loopw [9, 10, 11] (fun i x y wr => ∃ k : Nat, k ≤ 6 ∧ i = .int .i64 k ∧ AskRel (.slice a l.length cap) (.slice a' f.len cap') l f w wr ∧ StrB wr (w.heap.size + 1) (goodL.map ba)) (fun i _ _ _ => 6 - (intOf i).toNat)
          case atStart => exact ⟨0, by omega, rfl, HA1.out, HST.out⟩
          case round =>
            obtain ⟨k, hk, rfl, hA, hst⟩ := hrel
            have HA := hidA hA
            have HST := hidA hst
            by_cases hlt : k < 6
            · have hki : (k : Int) < 6 := by omega
              have hk0 : (0 : Int) ≤ k := by omega
              obtain ⟨x, hx⟩ := getSome (l := goodL.map ba) (i := k) (by simpa [goodL] using hlt)
              have cx := hst.2 k x hx
              obtain ⟨hx5, hxo⟩ := good_at k x hx
              have Hp := hidA (parse_any x wr (by omega) hA.env)
              have HXO := hidA hxo
              clear hA hst hx hxo
              go_wp2_with (go_at_call 8; refine Hp.out.mono ?_)
              rintro e w3 r hp hb3 hres
              obtain ⟨gf, gws, gm, rfl⟩ := prog_good hp hx5 HXO.out
              obtain ⟨v3, rfl, hown3⟩ := hres
              have HA3 := hidA (HA.out.call hb3)
              have HST3 := hidA (HST.out.below hb3)
              obtain ⟨a3, cap3, rfl⟩ := hown3.len
              clear hb3 hp hown3 cx
              go_wp2_with ((go_at_call 10; refine (Hn.out _ _).mono ?_; rintro e w' ⟨rfl, rfl⟩))
              go_roundw
              case rel => exact ⟨k + 1, by omega, by go_num, HA3.out, HST3.out⟩
              case measure => simp [intOf]; omega
            · obtain rfl : k = 6 := by omega
              obtain ⟨W1, zs, hmk, hcv, hzs, hbz⟩ := zeros wr 513 (by omega)
              rw [show ((513 : Nat) : Int) = 513 from rfl] at hmk
              have HZS := hidA hzs
              have HA2 := hidA (hA.call hbz)
              clear hA hst hzs hbz
              go_wp2
              have hba := (Below.refl W1.heap.size W1).alloc (Nat.le_refl _) (.cells #[.string b0, .string b1, .string zs, .string ⟨#[98]⟩, .string ⟨#[48, 49]⟩, .string ⟨#[45, 48]⟩, .string ⟨#[43, 49]⟩, .string ⟨#[57, 50, 50, 51, 51, 55, 50, 48, 51, 54, 56, 53, 52, 55, 55, 53, 56, 48, 56]⟩, .string ⟨#[105, 102]⟩, .string ⟨#[105, 102, 32, 97, 32, 93]⟩, .string ⟨#[93]⟩, .string ⟨#[91]⟩, .string ⟨#[105, 102, 32, 91]⟩, .string ⟨#[114, 101, 112, 32, 91, 32, 97]⟩, .string ⟨#[65]⟩, .string ⟨#[49, 45]⟩] 9)
              have hbb := (Below.refl (W1.alloc (.cells #[.string b0, .string b1, .string zs, .string ⟨#[98]⟩, .string ⟨#[48, 49]⟩, .string ⟨#[45, 48]⟩, .string ⟨#[43, 49]⟩, .string ⟨#[57, 50, 50, 51, 51, 55, 50, 48, 51, 54, 56, 53, 52, 55, 55, 53, 56, 48, 56]⟩, .string ⟨#[105, 102]⟩, .string ⟨#[105, 102, 32, 97, 32, 93]⟩, .string ⟨#[93]⟩, .string ⟨#[91]⟩, .string ⟨#[105, 102, 32, 91]⟩, .string ⟨#[114, 101, 112, 32, 91, 32, 97]⟩, .string ⟨#[65]⟩, .string ⟨#[49, 45]⟩] 9)).heap.size (W1.alloc (.cells #[.string b0, .string b1, .string zs, .string ⟨#[98]⟩, .string ⟨#[48, 49]⟩, .string ⟨#[45, 48]⟩, .string ⟨#[43, 49]⟩, .string ⟨#[57, 50, 50, 51, 51, 55, 50, 48, 51, 54, 56, 53, 52, 55, 55, 53, 56, 48, 56]⟩, .string ⟨#[105, 102]⟩, .string ⟨#[105, 102, 32, 97, 32, 93]⟩, .string ⟨#[93]⟩, .string ⟨#[91]⟩, .string ⟨#[105, 102, 32, 91]⟩, .string ⟨#[114, 101, 112, 32, 91, 32, 97]⟩, .string ⟨#[65]⟩, .string ⟨#[49, 45]⟩] 9))).alloc (Nat.le_refl _) (.cells #[.int .i64 2, .int .i64 2, .int .i64 2, .int .i64 7, .int .i64 7, .int .i64 7, .int .i64 7, .int .i64 7, .int .i64 6, .int .i64 7, .int .i64 7, .int .i64 7, .int .i64 6, .int .i64 6, .int .i64 7, .int .i64 7] 3)
              have HA4 := hidA ((HA2.out.call hba).call hbb)
              have HSB : Hid (StrB ((W1.alloc (.cells #[.string b0, .string b1, .string zs, .string ⟨#[98]⟩, .string ⟨#[48, 49]⟩, .string ⟨#[45, 48]⟩, .string ⟨#[43, 49]⟩, .string ⟨#[57, 50, 50, 51, 51, 55, 50, 48, 51, 54, 56, 53, 52, 55, 55, 53, 56, 48, 56]⟩, .string ⟨#[105, 102]⟩, .string ⟨#[105, 102, 32, 97, 32, 93]⟩, .string ⟨#[93]⟩, .string ⟨#[91]⟩, .string ⟨#[105, 102, 32, 91]⟩, .string ⟨#[114, 101, 112, 32, 91, 32, 97]⟩, .string ⟨#[65]⟩, .string ⟨#[49, 45]⟩] 9)).alloc (.cells #[.int .i64 2, .int .i64 2, .int .i64 2, .int .i64 7, .int .i64 7, .int .i64 7, .int .i64 7, .int .i64 7, .int .i64 6, .int .i64 7, .int .i64 7, .int .i64 7, .int .i64 6, .int .i64 6, .int .i64 7, .int .i64 7] 3)) W1.heap.size ((badL.map ba).set 2 zs)) := by
                unfold Hid
                rw [show (badL.map ba).set 2 zs = [b0, b1, zs, ⟨#[98]⟩, ⟨#[48, 49]⟩, ⟨#[45, 48]⟩, ⟨#[43, 49]⟩, ⟨#[57, 50, 50, 51, 51, 55, 50, 48, 51, 54, 56, 53, 52, 55, 55, 53, 56, 48, 56]⟩, ⟨#[105, 102]⟩, ⟨#[105, 102, 32, 97, 32, 93]⟩, ⟨#[93]⟩, ⟨#[91]⟩, ⟨#[105, 102, 32, 91]⟩, ⟨#[114, 101, 112, 32, 91, 32, 97]⟩, ⟨#[65]⟩, ⟨#[49, 45]⟩] by rw [← HB0.out, ← HB1.out]; rfl]
                exact (strB_new W1 [b0, b1, zs, ⟨#[98]⟩, ⟨#[48, 49]⟩, ⟨#[45, 48]⟩, ⟨#[43, 49]⟩, ⟨#[57, 50, 50, 51, 51, 55, 50, 48, 51, 54, 56, 53, 52, 55, 55, 53, 56, 48, 56]⟩, ⟨#[105, 102]⟩, ⟨#[105, 102, 32, 97, 32, 93]⟩, ⟨#[93]⟩, ⟨#[91]⟩, ⟨#[105, 102, 32, 91]⟩, ⟨#[114, 101, 112, 32, 91, 32, 97]⟩, ⟨#[65]⟩, ⟨#[49, 45]⟩] 9).below hbb
              have HNB : Hid (NumB ((W1.alloc (.cells #[.string b0, .string b1, .string zs, .string ⟨#[98]⟩, .string ⟨#[48, 49]⟩, .string ⟨#[45, 48]⟩, .string ⟨#[43, 49]⟩, .string ⟨#[57, 50, 50, 51, 51, 55, 50, 48, 51, 54, 56, 53, 52, 55, 55, 53, 56, 48, 56]⟩, .string ⟨#[105, 102]⟩, .string ⟨#[105, 102, 32, 97, 32, 93]⟩, .string ⟨#[93]⟩, .string ⟨#[91]⟩, .string ⟨#[105, 102, 32, 91]⟩, .string ⟨#[114, 101, 112, 32, 91, 32, 97]⟩, .string ⟨#[65]⟩, .string ⟨#[49, 45]⟩] 9)).alloc (.cells #[.int .i64 2, .int .i64 2, .int .i64 2, .int .i64 7, .int .i64 7, .int .i64 7, .int .i64 7, .int .i64 7, .int .i64 6, .int .i64 7, .int .i64 7, .int .i64 7, .int .i64 6, .int .i64 6, .int .i64 7, .int .i64 7] 3)) (W1.heap.size + 1) wantL) := by
                have h := numB_new (W1.alloc (.cells #[.string b0, .string b1, .string zs, .string ⟨#[98]⟩, .string ⟨#[48, 49]⟩, .string ⟨#[45, 48]⟩, .string ⟨#[43, 49]⟩, .string ⟨#[57, 50, 50, 51, 51, 55, 50, 48, 51, 54, 56, 53, 52, 55, 55, 53, 56, 48, 56]⟩, .string ⟨#[105, 102]⟩, .string ⟨#[105, 102, 32, 97, 32, 93]⟩, .string ⟨#[93]⟩, .string ⟨#[91]⟩, .string ⟨#[105, 102, 32, 91]⟩, .string ⟨#[114, 101, 112, 32, 91, 32, 97]⟩, .string ⟨#[65]⟩, .string ⟨#[49, 45]⟩] 9)) wantL 3
                rw [size_alloc1] at h
                exact h
              have HBAD := hidA (bad_at zs (by have := HZS.out; omega))
              have HLEN := hidA (bad_len zs (by have := HZS.out; omega))
              clear hba hbb
              go_loopw [14, 15, 16] (fun i x y wr => ∃ k : Nat, k ≤ 16 ∧ i = .int .i64 k ∧ AskRel (.slice a l.length cap) (.slice a' f.len cap') l f w wr ∧ StrB wr W1.heap.size ((badL.map ba).set 2 zs) ∧ NumB wr (W1.heap.size + 1) wantL) (fun i _ _ _ => 16 - (intOf i).toNat)
              case atStart => exact ⟨0, by omega, rfl, HA4.out, HSB.out, HNB.out⟩
              case round =>
                rename World => wq
                obtain ⟨k, hk, rfl, hA, hst, hnb⟩ := hrel
                have HA := hidA hA
                have HST := hidA hst
                have HNB := hidA hnb
                by_cases hlt : k < 16
                · have hki : (k : Int) < 16 := by omega
                  have hk0 : (0 : Int) ≤ k := by omega
                  obtain ⟨x, hx⟩ := getSome (l := (badL.map ba).set 2 zs) (i := k) (by simpa [badL] using hlt)
                  obtain ⟨c, hc⟩ := getSome (l := wantL) (i := k) hlt
                  have cx := hst.2 k x hx
                  have HX := hidA (HBAD.out k x hx)
                  have hcd : wantL.getD k 0 = c := by rw [List.getD_eq_getElem?_getD, hc]; rfl
                  rw [hcd] at HX
                  have HC := hidA hc
                  have hxs := HLEN.out k x hx
                  have Hp := hidA (parse_any x wq (by omega) hA.env)
                  clear hA hst hx hcd hc
                  go_wp2_with (go_at_call 8; refine Hp.out.mono ?_)
                  rintro e w3 ⟨r, hp, hb3, hres⟩
                  obtain rfl := HX.out _ hp
                  obtain ⟨rfl, hc0⟩ := hres
                  have HA3 := hidA (HA.out.call hb3)
                  have HST3 := hidA (HST.out.below hb3)
                  have HNB3 := hidA (HNB.out.below hb3)
                  have cc := HNB3.out.2 k c HC.out
                  have hcc : (c != c) = false := by simp
                  clear hb3 hp cx
                  go_wp2
                  go_quiet ((go_at_call 10; exact Calls.quiet_of_same (num_any _ _)))
                  go_wp2
                  go_roundw
                  case rel => exact ⟨k + 1, by omega, by go_num, HA3.out.call (below_drewN (Below.refl _ _) _), HST3.out.below (below_drewN (Below.refl _ _) _), HNB3.out.below (below_drewN (Below.refl _ _) _)⟩
                  case measure => simp [intOf]; omega
                · obtain rfl : k = 16 := by omega
                  obtain ⟨c0, c1⟩ := hA.cells
                  have hsz8 := hA.lt
                  have Hw := hidA (wakes_any wq hA.env)
                  have hl0 : (0 : Int) ≤ (l.length : Int) := by omega
                  clear hA hst hnb
                  go_wp2_with (go_at_call 13; refine Hw.out.mono ?_)
                  rintro e w9 ⟨rfl, hb9⟩
                  go_wp2
                  go_ret
                  exact ⟨rfl, HA.out.out.trans (hb9.mono (by omega))⟩
end Go.Proofs.YtaaijlkjbmpegaaDoor
