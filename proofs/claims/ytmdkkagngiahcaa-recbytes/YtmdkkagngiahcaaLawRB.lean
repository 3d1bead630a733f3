/- The law RecBytes' walk: it answers true, whatever ask comes in; it writes nothing that was there. -/
import Derived.Test.YtmdkkagngiahcaaRAsk
namespace Go.Proofs.Ytmdkkagngiahcaa
open Go.RowKit
set_option linter.unusedVariables false

set_option maxRecDepth 100000 in
set_option maxHeartbeats 800000 in
theorem lawrb_none (a : Option Addr) (cap : Nat) (x : ByteArray) (w : World) (hx : x.size ≤ maxLen) :
    Calls Try.prog 3 #[.agg #[.slice a 0 cap, .string x]] w fun e w' => e = .returned (.bool true) ∧ Below w.heap.size w w' := by
  have hks : RS w (.slice a 0 cap) [] := ⟨a, cap, rfl, .inl rfl⟩
  have hR0 := AskRel.start w (.slice a 0 cap) x [] 24 hks
  go_enter Try.func3, Try.ntmps3
  go_wp2_with fail
  refine (heavy_any _ x [] _ hR0.rs (by simp) (fun x hx => by simp at hx)).mono ?_
  rintro e w1 ⟨⟨r, rfl, hr⟩, hb1⟩
  have hR := hR0.step hb1
  clear hR0 hb1
  cases r
  · have c0 := hR.c0
    have c1 := hR.c1
    go_wp2
    go_loopw [3] (fun i W => i = .int .i64 0 ∧ AskRel w W (.slice a 0 cap) x []) (fun _ _ => 0)
    case atStart => exact ⟨rfl, hR⟩
    case round =>
      clear hR c0 c1
      obtain ⟨rfl, hR⟩ := hrel
      have c0 := hR.c0
      have c1 := hR.c1
      go_wp2_with fail
      refine (rectake_any x _ hx).mono ?_
      have hk := rtakerec_any x
      obtain ⟨⟨⟨⟨ka, kb⟩, kv⟩, kn, ke⟩, hkt⟩ : ∃ k, rTake x = k := ⟨_, rfl⟩
      rw [hkt] at hk ⊢
      simp only at hk ⊢
      rintro e w2 ⟨rfl, hb2⟩
      have hR2 := (hR.step hb2).step (bel_new w2 (.cells #[.int .i64 ka, .string kb, .int .i64 kv] 32))
      have hB2 := BoxR.new w2 ka kb kv 32
      clear hR c0 c1 hb2
      have c0 := hR2.c0
      have c1 := hR2.c1
      go_wp2_with fail
      refine (hk _ hx).mono ?_
      rintro e w3 ⟨rfl, hb3⟩
      have hR3 := (hR2.step hb3).step (bel_new w3 (.cells #[.int .i64 ka, .string kb, .int .i64 kv] 32))
      have hB3 := (hB2.step hb3).step (bel_new w3 (.cells #[.int .i64 ka, .string kb, .int .i64 kv] 32))
      have hC3 := BoxR.new w3 ka kb kv 32
      clear hR2 hB2 c0 c1 hb3
      obtain ⟨_, b0, b1, b2⟩ := hB3
      obtain ⟨_, b3, b4, b5⟩ := hC3
      have hgd := guardR
      have heq := eqR ka ka kv kv kb kb
      rw [eqC_self] at heq
      go_wp2_with (first | (go_at_call 10; refine (num_any _ _).mono ?_; rintro e w' ⟨rfl, rfl⟩) | (go_at_call 13; refine (wakes_any _).mono ?_; rintro e w' ⟨rfl, hw⟩))
      go_ret
      exact ⟨rfl, (hR3.step hw).bel⟩
  · go_wp2
    go_ret
    exact ⟨rfl, hR.bel⟩

set_option maxRecDepth 100000 in
set_option maxHeartbeats 3200000 in
theorem lawrb_some (b off cap : Nat) (x : ByteArray) (l : List Rc) (w : World) (hb : b < w.heap.size) (hat : RecsAt w b off l) (hl : l.length ≤ 4398046510976) (hwf : Wf l) (hx : x.size ≤ maxLen) :
    Calls Try.prog 3 #[.agg #[.slice (some ⟨b, off, none⟩) l.length cap, .string x]] w fun e w' => e = .returned (.bool true) ∧ Below w.heap.size w w' := by
  have hks : RS w (.slice (some ⟨b, off, none⟩) l.length cap) l := ⟨_, cap, rfl, .inr ⟨b, off, rfl, hb, hat⟩⟩
  have hR0 := AskRel.start w _ x l 24 hks
  go_enter Try.func3, Try.ntmps3
  go_wp2_with fail
  refine (heavy_any _ x l _ hR0.rs hl hwf).mono ?_
  rintro e w1 ⟨⟨r, rfl, hr⟩, hb1⟩
  have hR := hR0.step hb1
  clear hR0 hb1 hks hat
  cases r
  · obtain ⟨hl2, hx2⟩ := hr rfl
    clear hr
    have c0 := hR.c0
    have c1 := hR.c1
    go_wp2
    go_loopw [3] (fun i W => ∃ k : Nat, k ≤ l.length ∧ k ≤ 15 ∧ i = .int .i64 k ∧ AskRel w W (.slice (some ⟨b, off, none⟩) l.length cap) x l) (fun i _ => 15 - (intOf i).toNat)
    case atStart => exact ⟨0, by omega, by omega, rfl, hR⟩
    case round =>
      clear hR c0 c1
      obtain ⟨k, hk, hk15, rfl, hR⟩ := hrel
      have c0 := hR.c0
      have c1 := hR.c1
      by_cases hlt : k < l.length
      · by_cases hlt15 : k < 15
        · have hd15 : decide ((k : Int) < 15) = true := by simp; omega
          obtain ⟨⟨⟨ya, yb⟩, yv⟩, hy⟩ := getSome hlt
          have hwy := hwf _ (List.mem_of_getElem? hy)
          obtain ⟨d0, d1, d2⟩ := hR.rs.at k _ hy
          simp only at d0 d1 d2
          have hk0 : (0 : Int) ≤ k := by omega
          have hkl : (k : Int) < l.length := by omega
          have hkey := rkey_any (ya, yb)
          simp only at hkey
          by_cases hok : yb.size ≤ 64
          · have ho := hwy.ok hok
            have hby := fun W => recbytes_ok ((ya, yb), yv) W ho
            have hrb := fun W => rrec_any ((ya, yb), yv) W ho
            have hT := rTake_bytes ho x
            have hs94 := rBytes_len ((ya, yb), yv) hok
            simp only [hok, decide_true] at hkey
            generalize rBytes ((ya, yb), yv) = sb at hby hrb hT hs94
            simp only at hby hrb
            have hadd : ∀ W, (Op.stringOp .add sb x).run Try.prog W = .ok (.string (sb ++ x)) W := fun W => run_string_add_sum W _ _ (by omega)
            have hsum : (sb ++ x).size ≤ maxLen := by rw [ByteArray.size_append]; unfold maxLen; omega
            have hTk := fun W => rectake_any (sb ++ x) W hsum
            rw [hT] at hTk
            simp only at hTk
            clear hT hsum
            go_wp2_with fail
            refine (hby _).mono ?_
            rintro e w2 ⟨rfl, hb2⟩
            have hR2 := hR.step hb2
            clear hR c0 c1 d0 d1 d2 hb2
            have c0 := hR2.c0
            have c1 := hR2.c1
            obtain ⟨d0, d1, d2⟩ := hR2.rs.at k _ hy
            simp only at d0 d1 d2
            go_wp2_with fail
            refine (hkey _).mono ?_
            rintro e w3 ⟨rfl, hb3⟩
            have hR3 := hR2.step hb3
            clear hR2 c0 c1 d0 d1 d2 hb3
            have c0 := hR3.c0
            have c1 := hR3.c1
            obtain ⟨d0, d1, d2⟩ := hR3.rs.at k _ hy
            simp only at d0 d1 d2
            go_wp2_with fail
            refine (hrb _).mono ?_
            rintro e w4 ⟨rfl, hb4⟩
            have hR4 := hR3.step hb4
            clear hR3 c0 c1 d0 d1 d2 hb4
            have c0 := hR4.c0
            have c1 := hR4.c1
            go_wp2_with (first | (go_at_call 10; refine (num_any _ _).mono ?_; rintro e w' ⟨rfl, rfl⟩) | fail)
            refine (hTk _).mono ?_
            rintro e w6 ⟨rfl, hb6⟩
            have hR6 := (hR4.step hb6).step (bel_new w6 (.cells #[.int .i64 ya, .string yb, .int .i64 yv] 32))
            obtain ⟨_, b0, b1, b2⟩ := BoxR.new w6 ya yb yv 32
            clear hR4 c0 c1 hb6
            have c0 := hR6.c0
            have c1 := hR6.c1
            obtain ⟨d0, d1, d2⟩ := hR6.rs.at k _ hy
            simp only at d0 d1 d2 b0 b1 b2
            have hgd := guardR
            have hne := neR ya ya yv yv yb yb
            rw [eqC_self] at hne
            go_wp2
            go_quiet (first | (go_at_call 10; refine Calls.quiet_of_same (num_any _ _)))
            go_wp2
            go_roundw
            case rel => exact ⟨k + 1, by omega, by omega, by go_num, hR6.step ⟨rfl, rfl, rfl, Nat.le_refl _, fun _ _ => rfl⟩⟩
            case measure => simp [intOf]; omega
          · have hbad := fun W => recbytes_bad ((ya, yb), yv) W hok
            simp only [hok, decide_false] at hkey hbad
            have hadd : ∀ W, (Op.stringOp .add ⟨#[]⟩ x).run Try.prog W = .ok (.string (⟨#[]⟩ ++ x)) W := fun W => run_string_add_sum W _ _ (by show 0 + x.size ≤ _; omega)
            rw [nil_app] at hadd
            have hTk := fun W => rectake_any x W hx
            obtain ⟨⟨⟨⟨ka, kb⟩, kv⟩, kn, ke⟩, hkt⟩ : ∃ k, rTake x = k := ⟨_, rfl⟩
            rw [hkt] at hTk
            simp only at hTk
            go_wp2_with fail
            refine (hbad _).mono ?_
            rintro e w2 ⟨rfl, hb2⟩
            have hR2 := hR.step hb2
            clear hR c0 c1 d0 d1 d2 hb2
            have c0 := hR2.c0
            have c1 := hR2.c1
            obtain ⟨d0, d1, d2⟩ := hR2.rs.at k _ hy
            simp only at d0 d1 d2
            go_wp2_with fail
            refine (hkey _).mono ?_
            rintro e w3 ⟨rfl, hb3⟩
            have hR3 := hR2.step hb3
            clear hR2 c0 c1 d0 d1 d2 hb3
            have c0 := hR3.c0
            have c1 := hR3.c1
            go_wp2_with (first | (go_at_call 10; refine (num_any _ _).mono ?_; rintro e w' ⟨rfl, rfl⟩) | fail)
            refine (hTk _).mono ?_
            rintro e w6 ⟨rfl, hb6⟩
            have hR6 := (hR3.step hb6).step (bel_new w6 (.cells #[.int .i64 ka, .string kb, .int .i64 kv] 32))
            obtain ⟨_, b0, b1, b2⟩ := BoxR.new w6 ka kb kv 32
            clear hR3 c0 c1 hb6
            have c0 := hR6.c0
            have c1 := hR6.c1
            obtain ⟨d0, d1, d2⟩ := hR6.rs.at k _ hy
            simp only at d0 d1 d2 b0 b1 b2
            have hgd := guardR
            have hne := neR ka ya kv yv kb yb
            go_wp2
            go_quiet (first | (go_at_call 10; refine Calls.quiet_of_same (num_any _ _)))
            go_wp2
            go_roundw
            case rel => exact ⟨k + 1, by omega, by omega, by go_num, hR6.step ⟨rfl, rfl, rfl, Nat.le_refl _, fun _ _ => rfl⟩⟩
            case measure => simp [intOf]; omega
        · have h15 : (15 : Int) ≤ k := by omega
          go_wp2_with fail
          refine (rectake_any x _ hx).mono ?_
          have hk := rtakerec_any x
          obtain ⟨⟨⟨⟨ka, kb⟩, kv⟩, kn, ke⟩, hkt⟩ : ∃ k, rTake x = k := ⟨_, rfl⟩
          rw [hkt] at hk ⊢
          simp only at hk ⊢
          rintro e w2 ⟨rfl, hb2⟩
          have hR2 := (hR.step hb2).step (bel_new w2 (.cells #[.int .i64 ka, .string kb, .int .i64 kv] 32))
          have hB2 := BoxR.new w2 ka kb kv 32
          clear hR c0 c1 hb2
          have c0 := hR2.c0
          have c1 := hR2.c1
          go_wp2_with fail
          refine (hk _ hx).mono ?_
          rintro e w3 ⟨rfl, hb3⟩
          have hR3 := (hR2.step hb3).step (bel_new w3 (.cells #[.int .i64 ka, .string kb, .int .i64 kv] 32))
          have hB3 := (hB2.step hb3).step (bel_new w3 (.cells #[.int .i64 ka, .string kb, .int .i64 kv] 32))
          have hC3 := BoxR.new w3 ka kb kv 32
          clear hR2 hB2 c0 c1 hb3
          obtain ⟨_, b0, b1, b2⟩ := hB3
          obtain ⟨_, b3, b4, b5⟩ := hC3
          have hgd := guardR
          have heq := eqR ka ka kv kv kb kb
          rw [eqC_self] at heq
          go_wp2_with (first | (go_at_call 10; refine (num_any _ _).mono ?_; rintro e w' ⟨rfl, rfl⟩) | (go_at_call 13; refine (wakes_any _).mono ?_; rintro e w' ⟨rfl, hw⟩))
          go_ret
          exact ⟨rfl, (hR3.step hw).bel⟩
      · have hlt' : l.length ≤ k := by omega
        go_wp2_with fail
        refine (rectake_any x _ hx).mono ?_
        have hk := rtakerec_any x
        obtain ⟨⟨⟨⟨ka, kb⟩, kv⟩, kn, ke⟩, hkt⟩ : ∃ k, rTake x = k := ⟨_, rfl⟩
        rw [hkt] at hk ⊢
        simp only at hk ⊢
        rintro e w2 ⟨rfl, hb2⟩
        have hR2 := (hR.step hb2).step (bel_new w2 (.cells #[.int .i64 ka, .string kb, .int .i64 kv] 32))
        have hB2 := BoxR.new w2 ka kb kv 32
        clear hR c0 c1 hb2
        have c0 := hR2.c0
        have c1 := hR2.c1
        go_wp2_with fail
        refine (hk _ hx).mono ?_
        rintro e w3 ⟨rfl, hb3⟩
        have hR3 := (hR2.step hb3).step (bel_new w3 (.cells #[.int .i64 ka, .string kb, .int .i64 kv] 32))
        have hB3 := (hB2.step hb3).step (bel_new w3 (.cells #[.int .i64 ka, .string kb, .int .i64 kv] 32))
        have hC3 := BoxR.new w3 ka kb kv 32
        clear hR2 hB2 c0 c1 hb3
        obtain ⟨_, b0, b1, b2⟩ := hB3
        obtain ⟨_, b3, b4, b5⟩ := hC3
        have hgd := guardR
        have heq := eqR ka ka kv kv kb kb
        rw [eqC_self] at heq
        go_wp2_with (first | (go_at_call 10; refine (num_any _ _).mono ?_; rintro e w' ⟨rfl, rfl⟩) | (go_at_call 13; refine (wakes_any _).mono ?_; rintro e w' ⟨rfl, hw⟩))
        go_ret
        exact ⟨rfl, (hR3.step hw).bel⟩
  · go_wp2
    go_ret
    exact ⟨rfl, hR.bel⟩
end Go.Proofs.Ytmdkkagngiahcaa
