/- The law KeyBytes' walk: it answers true, whatever ask comes in; it writes nothing that was there. -/
import Derived.Test.YtkfhfennelckfaaKTk
import Derived.Test.YtkfhfennelckfaaKAsk
import Derived.Deep.QuietTactic
import Derived.BigQuiet
import Derived.WalkSmall
namespace Go.Proofs.Ytkfhfennelckfaa
open Go.RowKit
set_option linter.unusedVariables false

/-- A key in a box of its own. -/
def BoxAt (W : World) (b : Nat) (y : Ky) : Prop := b < W.heap.size ∧ W.cell? ⟨b, 0, none⟩ = some (.int .i64 y.1) ∧ W.cell? ⟨b, 1, none⟩ = some (.string y.2)
theorem BoxAt.step {W W' : World} {b : Nat} {y : Ky} (h : BoxAt W b y) (hw : Below W.heap.size W W') : BoxAt W' b y :=
  ⟨Nat.lt_of_lt_of_le h.1 hw.size, (hw.cell (p := ⟨b, 0, none⟩) h.1).trans h.2.1, (hw.cell (p := ⟨b, 1, none⟩) h.1).trans h.2.2⟩
theorem BoxAt.new (W : World) (a : Int) (s : ByteArray) (T : TypeId) : BoxAt (W.alloc (.cells #[.int .i64 a, .string s] T)) W.heap.size (a, s) := (boxed W a s T).2

set_option maxRecDepth 100000 in
set_option maxHeartbeats 800000 in
theorem lawkb_none (a : Option Addr) (cap : Nat) (x : ByteArray) (w : World) (hx : x.size ≤ maxLen) :
    Calls Try.prog 3 #[.agg #[.slice a 0 cap, .string x]] w fun e w' => e = .returned (.bool true) ∧ Below w.heap.size w w' := by
  have hks : KS w (.slice a 0 cap) [] := ⟨a, cap, rfl, .inl rfl⟩
  have hR0 := AskRel.start w (.slice a 0 cap) x [] 24 hks
  go_enter Try.func3, Try.ntmps3
  go_wp2_with fail
  refine (heavy_any _ x [] _ hR0.ks (by unfold maxLen; decide)).mono ?_
  rintro e w1 ⟨⟨r, rfl, hr⟩, hb1⟩
  have hR := hR0.step hb1
  clear hR0 hb1
  cases r
  · have c0 := hR.c0
    have c1 := hR.c1
    go_wp2
    go_loopw [3] (fun i W => i = .int .i64 0 ∧ AskRel w W (.slice a 0 cap) x []) (fun _ _ => 0)
    case atStart => exact ⟨rfl, hR⟩
    case round =>
      clear hR c0 c1
      obtain ⟨rfl, hR⟩ := hrel
      have c0 := hR.c0
      have c1 := hR.c1
      go_wp2_with fail
      refine (ktake_any x _ hx).mono ?_
      have hk := rtake3_any x
      obtain ⟨⟨⟨ka, kb⟩, kn, ke⟩, hkt⟩ : ∃ k, kTake x = k := ⟨_, rfl⟩
      rw [hkt] at hk ⊢
      simp only at hk ⊢
      rintro e w2 ⟨rfl, hb2⟩
      have hR2 := (hR.step hb2).step (below_alloc w2 (.cells #[.int .i64 ka, .string kb] 30))
      have hB2 := BoxAt.new w2 ka kb 30
      clear hR c0 c1 hb2
      have c0 := hR2.c0
      have c1 := hR2.c1
      go_wp2_with fail
      refine (hk _ hx).mono ?_
      rintro e w3 ⟨rfl, hb3⟩
      have hR3 := (hR2.step hb3).step (below_alloc w3 (.cells #[.int .i64 ka, .string kb] 30))
      have hB3 := (hB2.step hb3).step (below_alloc w3 (.cells #[.int .i64 ka, .string kb] 30))
      have hC3 := BoxAt.new w3 ka kb 30
      clear hR2 hB2 c0 c1 hb3
      obtain ⟨_, b0, b1⟩ := hB3
      obtain ⟨_, b2, b3⟩ := hC3
      have hgd := guardK
      have heq := eqK ka ka kb kb
      rw [eqB_self] at heq
      go_wp2_with (first | (go_at_call 10; refine (numk_any _ _).mono ?_; rintro e w' ⟨rfl, rfl⟩) | (go_at_call 14; refine (wakes_any _).mono ?_; rintro e w' ⟨rfl, hw⟩))
      go_ret
      exact ⟨rfl, (hR3.step hw).bel⟩
  · go_wp2
    go_ret
    exact ⟨rfl, hR.bel⟩

set_option maxRecDepth 100000 in
set_option maxHeartbeats 3200000 in
theorem lawkb_some (b off cap : Nat) (x : ByteArray) (l : List Ky) (w : World) (hb : b < w.heap.size) (hat : KeysAt w b off l) (hl : l.length ≤ maxLen) (hwf : Wf l) (hx : x.size ≤ maxLen) :
    Calls Try.prog 3 #[.agg #[.slice (some ⟨b, off, none⟩) l.length cap, .string x]] w fun e w' => e = .returned (.bool true) ∧ Below w.heap.size w w' := by
  have hks : KS w (.slice (some ⟨b, off, none⟩) l.length cap) l := ⟨_, cap, rfl, .inr ⟨b, off, rfl, hb, hat⟩⟩
  have hR0 := AskRel.start w _ x l 24 hks
  go_enter Try.func3, Try.ntmps3
  go_wp2_with fail
  refine (heavy_any _ x l _ hR0.ks hl).mono ?_
  rintro e w1 ⟨⟨r, rfl, hr⟩, hb1⟩
  have hR := hR0.step hb1
  clear hR0 hb1 hks hat
  cases r
  · obtain ⟨hl2, hx2⟩ := hr rfl
    clear hr
    have c0 := hR.c0
    have c1 := hR.c1
    go_wp2
    go_loopw [3] (fun i W => ∃ k : Nat, k ≤ l.length ∧ k ≤ 15 ∧ i = .int .i64 k ∧ AskRel w W (.slice (some ⟨b, off, none⟩) l.length cap) x l) (fun i _ => 15 - (intOf i).toNat)
    case atStart => exact ⟨0, by omega, by omega, rfl, hR⟩
    case round =>
      clear hR c0 c1
      obtain ⟨k, hk, hk15, rfl, hR⟩ := hrel
      have c0 := hR.c0
      have c1 := hR.c1
      by_cases hlt : k < l.length
      · by_cases hlt15 : k < 15
        · have hd15 : decide ((k : Int) < 15) = true := by simp; omega
          obtain ⟨⟨ya, yb⟩, hy⟩ := getSome hlt
          obtain ⟨⟨hy1, hy2⟩, hy3⟩ := hwf _ (List.mem_of_getElem? hy)
          simp only at hy1 hy2 hy3
          obtain ⟨d0, d1⟩ := hR.ks.at hy
          simp only at d0 d1
          have hcheck := check_any (ya, yb)
          have hkey := rkey_any (ya, yb)
          simp only at hcheck hkey
          by_cases hok : yb.size ≤ 64
          · have hby := fun W => kbytes_any (ya, yb) W hok hy1 hy2
            have hrb := fun W => rbytes3_any (ya, yb) W hok hy1 hy2
            have hT := kTake_bytes (ya, yb) hok hy1 hy2 x
            have hC := kTake_cut (ya, yb) hok hy1 hy2
            have hs84 : (kBytes (ya, yb)).size ≤ 84 := by
              have := bytes_len ya
              have := bytes_len (yb.size : Int)
              unfold kBytes
              rw [ByteArray.size_append, ByteArray.size_append]
              simp only
              omega
            simp only [hok, decide_true, if_true] at hcheck hkey
            generalize kBytes (ya, yb) = sb at hby hrb hT hC hs84
            simp only at hby hrb
            have hadd : ∀ W, (Op.stringOp .add sb x).run Try.prog W = .ok (.string (sb ++ x)) W := fun W => run_string_add_sum W _ _ (by omega)
            have hsum : (sb ++ x).size ≤ maxLen := by rw [ByteArray.size_append]; unfold maxLen; omega
            have hTk := fun W => ktake_any (sb ++ x) W hsum
            rw [hT] at hTk
            simp only at hTk
            have hCk : ∀ (j : Nat) (W : World), j < sb.size → Calls Try.prog 12 #[.string (sb.extract 0 j)] W fun e w' => e = .returned (.tuple #[.agg #[.int .i64 0, .string ⟨#[]⟩], .int .i64 0, .int .i64 6]) ∧ Below W.heap.size W w' := fun j W hj => by
              have := ktake_any (sb.extract 0 j) W (by rw [ByteArray.size_extract]; unfold maxLen; omega)
              rwa [hC j hj] at this
            clear hT hC hsum
            go_wp2_with fail
            refine (hby _).mono ?_
            rintro e w2 ⟨rfl, hb2⟩
            have hR2 := hR.step hb2
            clear hR c0 c1 d0 d1 hb2
            have c0 := hR2.c0
            have c1 := hR2.c1
            obtain ⟨d0, d1⟩ := hR2.ks.at hy
            simp only at d0 d1
            go_wp2_with fail
            refine (hkey _).mono ?_
            rintro e w3 ⟨rfl, hb3⟩
            have hR3 := hR2.step hb3
            clear hR2 c0 c1 d0 d1 hb3
            have c0 := hR3.c0
            have c1 := hR3.c1
            obtain ⟨d0, d1⟩ := hR3.ks.at hy
            simp only at d0 d1
            go_wp2_with fail
            refine (hrb _).mono ?_
            rintro e w4 ⟨rfl, hb4⟩
            have hR4 := hR3.step hb4
            clear hR3 c0 c1 d0 d1 hb4
            have c0 := hR4.c0
            have c1 := hR4.c1
            obtain ⟨d0, d1⟩ := hR4.ks.at hy
            simp only at d0 d1
            go_wp2_with fail
            refine (hcheck _).mono ?_
            rintro e w5 ⟨rfl, hb5⟩
            have hR5 := hR4.step hb5
            clear hR4 c0 c1 d0 d1 hb5
            have c0 := hR5.c0
            have c1 := hR5.c1
            obtain ⟨d0, d1⟩ := hR5.ks.at hy
            simp only at d0 d1
            go_wp2_with (first | (go_at_call 10; refine (numk_any _ _).mono ?_; rintro e w' ⟨rfl, rfl⟩) | fail)
            refine (hTk _).mono ?_
            rintro e w6 ⟨rfl, hb6⟩
            have hR6 := (hR5.step hb6).step (below_alloc w6 (.cells #[.int .i64 ya, .string yb] 30))
            obtain ⟨_, b0, b1⟩ := BoxAt.new w6 ya yb 30
            clear hR5 c0 c1 d0 d1 hb6
            have c0 := hR6.c0
            have c1 := hR6.c1
            obtain ⟨d0, d1⟩ := hR6.ks.at hy
            simp only at d0 d1 b0 b1
            have hgd := guardK
            have hne := neK ya ya yb yb
            rw [eqB_self] at hne
            have hk0 : (0 : Int) ≤ k := by omega
            have hkl : (k : Int) < l.length := by omega
            go_wp2
            go_quiet (first | (go_at_call 10; refine Calls.quiet_of_same (numk_any _ _)))
            go_wp2
            go_loopw [11] (fun j W => ∃ m : Nat, m ≤ sb.size ∧ j = .int .i64 m ∧ AskRel w W (.slice (some ⟨b, off, none⟩) l.length cap) x l) (fun j _ => sb.size - (intOf j).toNat)
            case atStart => exact ⟨0, by omega, rfl, hR6.step ⟨rfl, rfl, rfl, Nat.le_refl _, fun _ _ => rfl⟩⟩
            case round =>
              clear hR6 c0 c1 d0 d1 b0 b1
              obtain ⟨m, hm, rfl, hR⟩ := hrel
              by_cases hms : m < sb.size
              · have hlt'' : decide ((m : Int) < sb.size) = true := by simp; omega
                go_wp2_with fail
                refine (hCk m _ hms).mono ?_
                rintro e w7 ⟨rfl, hb7⟩
                have hR7 := (hR.step hb7).step (below_alloc w7 (.cells #[.int .i64 0, .string ⟨#[]⟩] 30))
                clear hR hb7
                go_wp2_with (go_at_call 10; refine (numk_any _ _).mono ?_; rintro e w' ⟨rfl, rfl⟩)
                go_roundw
                case rel => exact ⟨m + 1, by omega, by go_num, hR7⟩
                case measure => simp [intOf]; omega
              · have hms' : sb.size ≤ m := by omega
                go_wp2
                go_roundw
                case rel => exact ⟨k + 1, by omega, by omega, by go_num, hR⟩
                case measure => simp [intOf]; omega
          · have hbad := fun W => kbytes_bad (ya, yb) W hok
            simp only [hok, decide_false, if_false] at hcheck hkey hbad
            go_wp2_with fail
            refine (hbad _).mono ?_
            rintro e w2 ⟨rfl, hb2⟩
            have hR2 := hR.step hb2
            clear hR c0 c1 d0 d1 hb2
            have c0 := hR2.c0
            have c1 := hR2.c1
            obtain ⟨d0, d1⟩ := hR2.ks.at hy
            simp only at d0 d1
            go_wp2_with fail
            refine (hkey _).mono ?_
            rintro e w3 ⟨rfl, hb3⟩
            have hR3 := hR2.step hb3
            clear hR2 c0 c1 d0 d1 hb3
            have c0 := hR3.c0
            have c1 := hR3.c1
            obtain ⟨d0, d1⟩ := hR3.ks.at hy
            simp only at d0 d1
            go_wp2_with fail
            refine (hcheck _).mono ?_
            rintro e w4 ⟨rfl, hb4⟩
            have hR4 := hR3.step hb4
            clear hR3 c0 c1 d0 d1 hb4
            go_wp2_with (go_at_call 10; refine (numk_any _ _).mono ?_; rintro e w' ⟨rfl, rfl⟩)
            go_roundw
            case rel => exact ⟨k + 1, by omega, by omega, by go_num, hR4⟩
            case measure => simp [intOf]; omega
        · have h15 : (15 : Int) ≤ k := by omega
          go_wp2_with fail
          refine (ktake_any x _ hx).mono ?_
          have hk := rtake3_any x
          obtain ⟨⟨⟨ka, kb⟩, kn, ke⟩, hkt⟩ : ∃ k, kTake x = k := ⟨_, rfl⟩
          rw [hkt] at hk ⊢
          simp only at hk ⊢
          rintro e w2 ⟨rfl, hb2⟩
          have hR2 := (hR.step hb2).step (below_alloc w2 (.cells #[.int .i64 ka, .string kb] 30))
          have hB2 := BoxAt.new w2 ka kb 30
          clear hR c0 c1 hb2
          have c0 := hR2.c0
          have c1 := hR2.c1
          go_wp2_with fail
          refine (hk _ hx).mono ?_
          rintro e w3 ⟨rfl, hb3⟩
          have hR3 := (hR2.step hb3).step (below_alloc w3 (.cells #[.int .i64 ka, .string kb] 30))
          have hB3 := (hB2.step hb3).step (below_alloc w3 (.cells #[.int .i64 ka, .string kb] 30))
          have hC3 := BoxAt.new w3 ka kb 30
          clear hR2 hB2 c0 c1 hb3
          obtain ⟨_, b0, b1⟩ := hB3
          obtain ⟨_, b2, b3⟩ := hC3
          have hgd := guardK
          have heq := eqK ka ka kb kb
          rw [eqB_self] at heq
          go_wp2_with (first | (go_at_call 10; refine (numk_any _ _).mono ?_; rintro e w' ⟨rfl, rfl⟩) | (go_at_call 14; refine (wakes_any _).mono ?_; rintro e w' ⟨rfl, hw⟩))
          go_ret
          exact ⟨rfl, (hR3.step hw).bel⟩
      · have hlt' : l.length ≤ k := by omega
        go_wp2_with fail
        refine (ktake_any x _ hx).mono ?_
        have hk := rtake3_any x
        obtain ⟨⟨⟨ka, kb⟩, kn, ke⟩, hkt⟩ : ∃ k, kTake x = k := ⟨_, rfl⟩
        rw [hkt] at hk ⊢
        simp only at hk ⊢
        rintro e w2 ⟨rfl, hb2⟩
        have hR2 := (hR.step hb2).step (below_alloc w2 (.cells #[.int .i64 ka, .string kb] 30))
        have hB2 := BoxAt.new w2 ka kb 30
        clear hR c0 c1 hb2
        have c0 := hR2.c0
        have c1 := hR2.c1
        go_wp2_with fail
        refine (hk _ hx).mono ?_
        rintro e w3 ⟨rfl, hb3⟩
        have hR3 := (hR2.step hb3).step (below_alloc w3 (.cells #[.int .i64 ka, .string kb] 30))
        have hB3 := (hB2.step hb3).step (below_alloc w3 (.cells #[.int .i64 ka, .string kb] 30))
        have hC3 := BoxAt.new w3 ka kb 30
        clear hR2 hB2 c0 c1 hb3
        obtain ⟨_, b0, b1⟩ := hB3
        obtain ⟨_, b2, b3⟩ := hC3
        have hgd := guardK
        have heq := eqK ka ka kb kb
        rw [eqB_self] at heq
        go_wp2_with (first | (go_at_call 10; refine (numk_any _ _).mono ?_; rintro e w' ⟨rfl, rfl⟩) | (go_at_call 14; refine (wakes_any _).mono ?_; rintro e w' ⟨rfl, hw⟩))
        go_ret
        exact ⟨rfl, (hR3.step hw).bel⟩
  · go_wp2
    go_ret
    exact ⟨rfl, hR.bel⟩
end Go.Proofs.Ytkfhfennelckfaa
