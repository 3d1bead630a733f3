/- Texts laid together: NPro, NMap, MROpn. -/
import Derived.Test.YtaagllbcmgnbnaaGreatDoorMB20
import Derived.Test.YtaagllbcmgnbnaaGreatDoorMB40
import Derived.Test.YtaagllbcmgnbnaaGreatDoorMB24
import Derived.Test.YtaagllbcmgnbnaaGreatDoorMB13
import Derived.Test.YtaagllbcmgnbnaaGreatDoorMB28
import Derived.Test.YtaagllbcmgnbnaaGreatDoorMB36
/- local: mayFold, program. -/
namespace Go.Proofs.YtaagllbcmgnbnaaGreatDoor
open Go.RowKit
set_option linter.unusedVariables false
set_option maxRecDepth 100000

theorem foldRes_err (agg bound : Int) (l : List Rc) : (mayFo agg bound l = true → (foldRes agg bound l).2 ≠ 1) ∧ (mayFo agg bound l = false → (foldRes agg bound l).2 = 1) := by
  unfold foldRes mayFo
  cases h : (wayC agg bound && decide (l.length ≤ 1536) && keysOk l)
  · exact ⟨fun h => (by cases h), fun _ => (by simp)⟩
  · refine ⟨fun _ => ?_, fun h => (by cases h)⟩
    rw [if_pos rfl]
    rcases gat_err agg bound.toNat (ones agg l) with h0 | h0
    · have : (foldR agg bound.toNat l).2 = 0 := h0
      rw [fin_ok this, this]; decide
    · have : (foldR agg bound.toNat l).2 = 11 := h0
      rw [fin_bad (by rw [this]; decide), this]; decide
set_option maxHeartbeats 1000000 in
theorem lmayFold_any (agg bound : Int) (v : Value) (l : List Rc) (w : World) (h : RS w v l) (hwf : Wf l) (hl : l.length ≤ 100000) :
    Calls Tryz.prog 29 #[.int .i64 agg, .int .i64 bound, v] w (BoolR w (mayFo agg bound l)) := by
  have HF := hidM (fold_any agg bound v l w h hwf hl)
  obtain ⟨h1, h2⟩ := foldRes_err agg bound l
  obtain ⟨⟨F1, F2⟩, hF⟩ : ∃ F, foldRes agg bound l = F := ⟨_, rfl⟩
  rw [hF] at HF h1 h2
  simp only at h1 h2
  obtain ⟨a, c, rfl, -⟩ := h
  cases hm : mayFo agg bound l with
  | true =>
    have hne : (F2 != 1) = true := by simpa using h1 hm
    clear h1 h2 hm hF
    go_enter Tryz.func29, Tryz.ntmps29
    go_wp2_with (go_at_call 30; refine HF.out.mono ?_; rintro e W1 ⟨⟨v1, rfl, ho1⟩, hb1⟩)
    go_ret
    exact ⟨rfl, hb1⟩
  | false =>
    have he := h2 hm
    subst he
    clear h1 h2 hm hF
    go_enter Tryz.func29, Tryz.ntmps29
    go_wp2_with (go_at_call 30; refine HF.out.mono ?_; rintro e W1 ⟨⟨v1, rfl, ho1⟩, hb1⟩)
    go_ret
    exact ⟨rfl, hb1⟩
/-- Without fuel: what Check tells, or that there is none. -/
theorem run_zero (f : Fo) : (cE f = 0 → (runR f ((0, ⟨#[]⟩), 0) 0).1 = 0 ∨ (runR f ((0, ⟨#[]⟩), 0) 0).1 = 10) ∧ (cE f ≠ 0 → (runR f ((0, ⟨#[]⟩), 0) 0).1 = cE f) := by
  refine ⟨fun h => ?_, fun h => by rw [runR_1 h]⟩
  cases f with
  | nil => exact .inl (by rw [show (0 : Int) = ((0 : Nat) : Int) from rfl, runR_4 (q := 0) h (by decide) (by omega) rfl]; rfl)
  | cons k n b r => exact .inr (by rw [show (0 : Int) = ((0 : Nat) : Int) from rfl, runR_3 (q := 0) h (by decide) (by omega) (ev_no rfl)])
/-- What program answers. -/
def ProR (w : World) (s : ByteArray) (e : Ending) (w' : World) : Prop := ∃ r, Prog s r ∧ Below w.heap.size w w' ∧ match r with
  | .err c => e = .returned (.tuple #[.slice none 0 0, .int .i64 c]) ∧ c ≠ 0
  | .ok f _ _ => (cE f ≠ 0 → e = .returned (.tuple #[.slice none 0 0, .int .i64 (cE f)])) ∧ (cE f = 0 → ∃ v, e = .returned (.tuple #[v, .int .i64 0]) ∧ FS QA w' v f)
set_option maxHeartbeats 2000000 in
theorem program_any (s : ByteArray) (w : World) (hs : s.size ≤ 140737488351232) (hE : Env w) : Calls Tryz.prog 89 #[.string s] w (ProR w s) := by
  have HPA := hidM (parse_any s w hs hE)
  go_enter Tryz.func89, Tryz.ntmps89
  go_wp2_with fail
  refine HPA.out.mono ?_
  rintro e W1 ⟨r, hr, hb1, hres⟩
  have HR := hidM hr
  have HB1 := hidM hb1
  cases r with
  | err c =>
    obtain ⟨rfl, hc0⟩ := hres
    have hbe : (c != 0) = true := by simpa using hc0
    have hc := hidM hc0
    clear hr hb1 HPA
    go_wp2
    go_ret2
    exact ⟨_, HR.out, HB1.out, rfl, hc.out⟩
  | ok f ws m =>
    obtain ⟨v1, rfl, hown⟩ := hres
    obtain ⟨hMay, hWN, hln, hWB⟩ := prog_ok hr
    have hfs : FS QA W1 v1 f := hown.fs.arg
    obtain ⟨a1, c1, rfl⟩ := hfs.val
    have HFS := hidM hfs
    have HRU := hidM (run_any f _ W1 ((0, ⟨#[]⟩), 0) 0 hfs hln hWB (by decide))
    obtain ⟨z1, z2⟩ := run_zero f
    obtain ⟨⟨T1, T2, T3⟩, hT⟩ : ∃ T, runR f ((0, ⟨#[]⟩), 0) 0 = T := ⟨_, rfl⟩
    unfold RunR at HRU
    rw [hT] at HRU z1 z2
    simp only at HRU z1 z2
    clear hr hb1 HPA hfs hown hMay hWN hln hWB hT
    by_cases hc : cE f = 0
    · have z1 := z1 hc
      have HC := hidM hc
      clear z2 hc
      rcases z1 with rfl | rfl
      · go_wp2_with (go_at_call 90; refine HRU.out.mono ?_; rintro e W2 ⟨v2, rfl, ho2, hb2⟩)
        go_ret2
        exact ⟨_, HR.out, nxt HB1.out hb2, fun h => absurd HC.out h, fun _ => ⟨_, rfl, HFS.out.below hb2⟩⟩
      · go_wp2_with (go_at_call 90; refine HRU.out.mono ?_; rintro e W2 ⟨v2, rfl, ho2, hb2⟩)
        go_ret2
        exact ⟨_, HR.out, nxt HB1.out hb2, fun h => absurd HC.out h, fun _ => ⟨_, rfl, HFS.out.below hb2⟩⟩
    · have z2 := z2 hc
      have HC := hidM hc
      have h10 : cE f ≠ 10 := by rcases cE_vals f with h | h | h <;> rw [h] <;> decide
      rw [← z2] at h10 hc
      have HZ := hidM z2
      have hb1' : (T1 != 0) = true := by simpa using hc
      have hb2' : (T1 != 10) = true := by simpa using h10
      clear z1 z2 hc h10
      go_wp2_with (go_at_call 90; refine HRU.out.mono ?_; rintro e W2 ⟨v2, rfl, ho2, hb2⟩)
      go_ret2
      exact ⟨_, HR.out, nxt HB1.out hb2, fun _ => by rw [← HZ.out]; rfl, fun h => absurd h HC.out⟩
end Go.Proofs.YtaagllbcmgnbnaaGreatDoor
/- local: Map. -/
namespace Go.Proofs.YtaagllbcmgnbnaaGreatDoor
open Go.RowKit
set_option linter.unusedVariables false
set_option maxRecDepth 100000

theorem mayM_of {agg bound fu : Int} {l : List Rc} (h1 : 0 ≤ fu ∧ fu ≤ 2000) (h2 : l.length ≤ 64) : mayM agg bound fu l = mayFo agg bound l := by
  unfold mayM mayFo
  rw [decide_eq_true h1, decide_eq_true h2, decide_eq_true (show l.length ≤ 1536 by omega)]
  simp
set_option maxHeartbeats 3200000 in
theorem lmap_any (j : Jb) (a5 : Option Addr) (n5 c5 : Nat) (u : Value) (l : List Rc) (w : World) (h : RS w u l) (hwf : Wf l) (hl : l.length ≤ 100000) (hp : j.prog.size ≤ 140737488351232) (hf : -9223372036854775808 ≤ j.fuel ∧ j.fuel ≤ 9223372036854775807) (hE : Env w) :
    Calls Tryz.prog 61 #[jobV j (.slice a5 n5 c5), u] w fun e w' => (∃ v', e = .returned (.tuple #[v', .int .i64 (mapRes j l).2]) ∧ OwnR w' w.heap.size v' (mapRes j l).1) ∧ Below w.heap.size w w' := by
  have hst : ∀ (W : World) (o : Obj), Below W.heap.size W (W.alloc o) := fun W o => (Below.refl _ _).alloc (Nat.le_refl _) _
  obtain ⟨W0, hW0⟩ : ∃ W0 : World, W0 = w.alloc (.cells #[.int .i64 j.id, .string j.prog, .int .i64 j.agg, .int .i64 j.bound, .int .i64 j.fuel, .slice a5 n5 c5, .int .i64 j.parts] 51) := ⟨_, rfl⟩
  have hb0 : Below w.heap.size w W0 := by rw [hW0]; exact hst _ _
  have B0 : BlkJ W0 w.heap.size j (.slice a5 n5 c5) := by rw [hW0]; exact BlkJ.new w _ _
  have h0 := h.below hb0
  obtain ⟨⟨M1, M2⟩, hM⟩ : ∃ M, M = mapRes j l := ⟨_, rfl⟩
  rw [← hM]
  have HP := hidM (fun r (hr : Prog j.prog r) => hM.trans (mapRes_of hr l))
  have HPA := hidM (program_any j.prog W0 hp (hE.low hb0))
  have HB0 := hidM hb0
  have HF0 := hidM B0
  have HW := hidM hW0.symm
  have HS := hidM h0
  have HST := hidM hst
  obtain ⟨r0, r1, r2, r3, r4, -, -⟩ := B0.cells
  obtain ⟨ju, cu, rfl, hsh⟩ := h0
  clear hM hW0 B0 h hst hb0 hE
  go_enter Tryz.func61, Tryz.ntmps61
  go_wp2_with fail
  rw [HW.out]
  refine HPA.out.mono ?_
  rintro e W1 ⟨r, hr, hb1, hres⟩
  have HR := hidM (HP.out r hr)
  have HB1 := hidM hb1
  cases r with
  | err c =>
    obtain ⟨rfl, hc0⟩ := hres
    have hbe : (c != 0) = true := by simpa using hc0
    rw [mapP_err] at HR
    clear hr hb1 HPA HP
    go_wp2
    go_ret2
    exact ⟨⟨_, by rw [(Prod.mk.inj HR.out).2]; rfl, by rw [(Prod.mk.inj HR.out).1]; exact World.ownsRow_nil _ _ _ _⟩, nxt HB0.out HB1.out⟩
  | ok f ws m =>
    obtain ⟨hres1, hres2⟩ := hres
    obtain ⟨hMay, hWN, hln, hWB⟩ := prog_ok hr
    by_cases hcE : cE f = 0
    · obtain ⟨v1, rfl, hfs⟩ := hres2 hcE
      obtain ⟨a1, c1, rfl⟩ := hfs.val
      have HFS := hidM hfs
      have HCE := hidM hcE
      have HNO := hidM (fun (hm : mayM j.agg j.bound j.fuel l = false) => Prod.mk.inj (HR.out.trans (mapP_form hcE hm)))
      have HYES := hidM (fun (hm : mayM j.agg j.bound j.fuel l = true) => HR.out.trans (mapP_run hcE hm))
      have HFA := hidM (show ∀ W, Below W1.heap.size W1 W → W.cell? ⟨w.heap.size, 2, none⟩ = some (.int .i64 j.agg) ∧ W.cell? ⟨w.heap.size, 3, none⟩ = some (.int .i64 j.bound) ∧ W.cell? ⟨w.heap.size, 4, none⟩ = some (.int .i64 j.fuel) from fun W hW => by
        obtain ⟨-, -, z2, z3, z4, -, -⟩ := ((HF0.out.below hb1).below hW).cells
        exact ⟨z2, z3, z4⟩)
      obtain ⟨z2, z3, z4⟩ := HFA.out W1 (Below.refl _ _)
      have HMF := hidM (lmayFold_any j.agg j.bound _ l W1 (HS.out.below hb1) hwf hl)
      clear hr hb1 HPA HP hfs r0 r1 r2 r3 r4 hcE hres1 hres2
      by_cases g1 : j.fuel < 0
      · have HN := hidM (HNO.out (by unfold mayM; rw [decide_eq_false (show ¬ (0 ≤ j.fuel ∧ j.fuel ≤ 2000) by omega), Bool.false_and, Bool.and_false]))
        clear HNO HYES
        go_wp2
        go_ret2
        exact ⟨⟨_, by rw [HN.out.2]; rfl, by rw [HN.out.1]; exact World.ownsRow_nil _ _ _ _⟩, nxt HB0.out HB1.out⟩
      · by_cases g2 : 2000 < j.fuel
        · have HN := hidM (HNO.out (by unfold mayM; rw [decide_eq_false (show ¬ (0 ≤ j.fuel ∧ j.fuel ≤ 2000) by omega), Bool.false_and, Bool.and_false]))
          clear HNO HYES
          go_wp2
          go_ret2
          exact ⟨⟨_, by rw [HN.out.2]; rfl, by rw [HN.out.1]; exact World.ownsRow_nil _ _ _ _⟩, nxt HB0.out HB1.out⟩
        · by_cases g3 : 64 < l.length
          · have HN := hidM (HNO.out (by unfold mayM; rw [decide_eq_false (show ¬ (l.length ≤ 64) by omega), Bool.false_and, Bool.and_false, Bool.and_false]))
            have g3i : (64 : Int) < (l.length : Int) := by omega
            have g3d : decide ((64 : Int) < (l.length : Int)) = true := decide_eq_true g3i
            clear HNO HYES
            go_wp2
            go_ret2
            exact ⟨⟨_, by rw [HN.out.2]; rfl, by rw [HN.out.1]; exact World.ownsRow_nil _ _ _ _⟩, nxt HB0.out HB1.out⟩
          · have g3i : ¬ (64 : Int) < (l.length : Int) := by omega
            have g3d : decide ((64 : Int) < (l.length : Int)) = false := decide_eq_false g3i
            have hmm := mayM_of (agg := j.agg) (bound := j.bound) (fu := j.fuel) (l := l) (by omega) (by omega)
            rw [hmm] at HNO HYES
            cases g4 : mayFo j.agg j.bound l with
            | false =>
              have HN := hidM (HNO.out g4)
              rw [g4] at HMF
              clear HNO HYES hmm g4
              go_wp2_with (go_at_call 29; refine HMF.out.mono ?_; rintro e W2 ⟨rfl, hb2⟩)
              go_ret2
              exact ⟨⟨_, by rw [HN.out.2]; rfl, by rw [HN.out.1]; exact World.ownsRow_nil _ _ _ _⟩, nxt HB0.out (nxt HB1.out hb2)⟩
            | true =>
              have HY := hidM (HYES.out g4)
              rw [g4] at HMF
              clear HNO HYES hmm g4
              go_wp2_with (go_at_call 29; refine HMF.out.mono ?_; rintro e W2 ⟨rfl, hb2⟩)
              have HB3 := hidM (nxt HB1.out hb2)
              have HFW := hidM (show ∀ W, Below W2.heap.size W2 W → W.cell? ⟨w.heap.size, 4, none⟩ = some (.int .i64 j.fuel) ∧ FS QA W (.slice a1 f.len c1) f ∧ Below W2.heap.size W2 W from fun W hW => by
                obtain ⟨-, -, -, -, y4, -, -⟩ := (HF0.out.below (nxt HB3.out hW)).cells
                exact ⟨y4, HFS.out.below (nxt hb2 hW), hW⟩)
              clear hb2 z2 z3 z4 g1 g2
              go_loopw [8, 47] (fun vo i wr => ∃ (k : Nat) (acc : List Rc), k ≤ l.length ∧ i = .int .i64 k ∧ Hid (mapL f j.fuel (l.drop k) acc = (M1, M2)) ∧ acc.length ≤ 256 ∧ OwnR wr W2.heap.size vo acc ∧ Below W2.heap.size W2 wr) (fun _ i _ => l.length - (intOf i).toNat)
              case atStart => exact ⟨0, [], by omega, rfl, HY.out.symm, by simp, World.ownsRow_nil _ _ _ _, Below.refl _ _⟩
              case round =>
                rename World => w0
                obtain ⟨k, acc, hk, rfl, HO, hacc, ho, hbel⟩ := hrel
                obtain ⟨ao, co, rfl⟩ : ∃ a c, u8 = .slice a acc.length c := by
                  obtain ⟨a, c, e, -⟩ := RS.own ho
                  exact ⟨a, c, e⟩
                have HBEL := hidM hbel
                by_cases hlt : k < l.length
                · obtain ⟨⟨⟨xa, xb⟩, xv⟩, hx⟩ := getSome hlt
                  rcases hsh with hnil | ⟨b, off, rfl, hb, hat⟩
                  · rw [hnil] at hlt; simp at hlt
                  have hki0 : (0 : Int) ≤ (k : Int) := by omega
                  have hki : (k : Int) < (l.length : Int) := by omega
                  have hbb : b < w0.heap.size := Nat.lt_of_lt_of_le hb (nxt HB3.out hbel).size
                  obtain ⟨c0, c1', c2⟩ := (hat.below (nxt HB3.out hbel) hb) k _ hx
                  simp only at c0 c1' c2
                  obtain ⟨Wa, hWa⟩ : ∃ Wa : World, Wa = w0.alloc (.cells #[.int .i64 xa, .string xb, .int .i64 xv] 68) := ⟨_, rfl⟩
                  have hba : Below w0.heap.size w0 Wa := by rw [hWa]; exact HST.out _ _
                  have hnw : Wa.heap[w0.heap.size]? = some (.cells #[.int .i64 xa, .string xb, .int .i64 xv] 68 (0, 0)) := by rw [hWa]; exact heap_alloc_new w0 _
                  obtain ⟨y4, yf, -⟩ := HFW.out Wa (nxt hbel hba)
                  have HRUN := hidM (run_any f _ Wa ((xa, xb), xv) j.fuel yf hln hWB (by
                    have := (hwf _ (List.mem_of_getElem? hx)).txt
                    simp only at this ⊢
                    omega))
                  have h256 := runR_len256 f ((xa, xb), xv) j.fuel
                  have hstep := HO.out
                  rw [show l.drop k = ((xa, xb), xv) :: l.drop (k + 1) from by
                    obtain ⟨q1, q2⟩ := List.getElem?_eq_some_iff.1 hx
                    rw [List.drop_eq_getElem_cons q1, q2], mapL_cons] at hstep
                  unfold RunR at HRUN
                  obtain ⟨RR, hRR⟩ : ∃ RR, RR = runR f ((xa, xb), xv) j.fuel := ⟨_, rfl⟩
                  rw [← hRR] at HRUN hstep h256
                  obtain ⟨er, lf, out⟩ := RR
                  simp only at HRUN hstep h256
                  have HOW := hidM ho
                  have HSTEP := hidM hstep
                  have HBA := hidM hba
                  have HWA := hidM hWa.symm
                  have n0 : Wa.cell? ⟨w0.heap.size, 0, none⟩ = some (.int .i64 xa) := by simp only [World.cell?, hnw]; rfl
                  have n1 : Wa.cell? ⟨w0.heap.size, 1, none⟩ = some (.string xb) := by simp only [World.cell?, hnw]; rfl
                  have n2 : Wa.cell? ⟨w0.heap.size, 2, none⟩ = some (.int .i64 xv) := by simp only [World.cell?, hnw]; rfl
                  obtain ⟨y4', -, -⟩ := HFW.out w0 hbel
                  have hjb := block_lt_of_cell y4'
                  simp only at hjb
                  clear hx hat ho hbel HO hstep hRR hWa hba hnw yf
                  have HAPP := hidM (fun (W5 : World) (v5 : Value) (hb5 : Below Wa.heap.size Wa W5) (ho5 : OwnR W5 Wa.heap.size v5 out) => by
                    have hbV := nxt HBA.out hb5
                    have hbX := nxt HBEL.out hbV
                    obtain ⟨v8, W8, q1, q2, q3⟩ := append_rs 23 (HOW.out.below hbV) (RS.own ho5) (by omega) hbX.size
                    exact (⟨v8, W8, q1, q2, hbX.grown q3 hbX.size (own_row (HOW.out.below hbV))⟩ : ∃ v8 W8, (Builtin.append_ #[23, 23] 23 #[.slice ao acc.length co, v5]).run Tryz.prog W5 = .ok v8 W8 ∧ OwnR W8 W2.heap.size v8 (acc ++ out) ∧ Below W2.heap.size W2 W8))
                  by_cases he : er = 0
                  · subst he
                    have hS := HSTEP.out
                    rw [if_neg (by simp)] at hS
                    by_cases hbig : 256 < (acc ++ out).length
                    · rw [if_pos hbig] at hS
                      have HN := hidM (Prod.mk.inj hS)
                      have hd : decide ((256 : Int) < ((acc ++ out).length : Int)) = true := decide_eq_true (by omega)
                      have hd2 : decide ((256 : Int) < (acc.length : Int) + (out.length : Int)) = true := decide_eq_true (by rw [List.length_append] at hbig; omega)
                      have hd3 : (256 : Int) < (acc.length : Int) + (out.length : Int) := by rw [List.length_append] at hbig; omega
                      clear hS hbig HSTEP
                      go_wp2_with (first
                        | (go_at_call 90; rw [HWA.out]; refine HRUN.out.mono ?_; rintro e W5 ⟨v5, rfl, ho5, hb5⟩; obtain ⟨v8, W8, q1, q2, q3⟩ := HAPP.out _ _ hb5 ho5; obtain ⟨a6, c6, rfl⟩ : ∃ a c, v5 = .slice a out.length c := (by obtain ⟨a, c, e, -⟩ := RS.own ho5; exact ⟨a, c, e⟩); obtain ⟨a8, c8, rfl⟩ : ∃ a c, v8 = .slice a (acc ++ out).length c := (by obtain ⟨a, c, e, -⟩ := RS.own q2; exact ⟨a, c, e⟩); have U1 := hidM q1; have Q2 := hidM q2; have Q3 := hidM q3; clear q1 q2 q3 ho5)
                        | (at_builtin; refine wpList_append_run _ rfl _ _ _ rfl _ _ _ W8 rfl rfl U1.out ?_))
                      go_ret2
                      exact ⟨⟨_, by rw [← HN.out.2]; rfl, by rw [← HN.out.1]; exact World.ownsRow_nil _ _ _ _⟩, nxt HB0.out (nxt HB3.out Q3.out)⟩
                    · rw [if_neg hbig] at hS
                      have HN := hidM hS
                      have hd : decide ((256 : Int) < ((acc ++ out).length : Int)) = false := decide_eq_false (by omega)
                      have hle : (acc ++ out).length ≤ 256 := by omega
                      have hd2 : decide ((256 : Int) < (acc.length : Int) + (out.length : Int)) = false := decide_eq_false (by rw [List.length_append] at hle; omega)
                      have hd3 : ¬ (256 : Int) < (acc.length : Int) + (out.length : Int) := by rw [List.length_append] at hle; omega
                      clear hS hbig HSTEP
                      go_wp2_with (first
                        | (go_at_call 90; rw [HWA.out]; refine HRUN.out.mono ?_; rintro e W5 ⟨v5, rfl, ho5, hb5⟩; obtain ⟨v8, W8, q1, q2, q3⟩ := HAPP.out _ _ hb5 ho5; obtain ⟨a6, c6, rfl⟩ : ∃ a c, v5 = .slice a out.length c := (by obtain ⟨a, c, e, -⟩ := RS.own ho5; exact ⟨a, c, e⟩); obtain ⟨a8, c8, rfl⟩ : ∃ a c, v8 = .slice a (acc ++ out).length c := (by obtain ⟨a, c, e, -⟩ := RS.own q2; exact ⟨a, c, e⟩); have U1 := hidM q1; have Q2 := hidM q2; have Q3 := hidM q3; clear q1 q2 q3 ho5)
                        | (at_builtin; refine wpList_append_run _ rfl _ _ _ rfl _ _ _ W8 rfl rfl U1.out ?_))
                      refine ⟨⟨k + 1, acc ++ out, by omega, by go_num, HN.out, hle, by rw [← List.length_append]; exact Q2.out, Q3.out⟩, ?_⟩
                      simp only [intOf]
                      omega
                  · have hbe : (er != 0) = true := by simpa using he
                    have hS := HSTEP.out
                    rw [if_pos he] at hS
                    have HN := hidM (Prod.mk.inj hS)
                    clear hS he HSTEP
                    go_wp2_with (go_at_call 90; rw [HWA.out]; refine HRUN.out.mono ?_; rintro e W5 ⟨v5, rfl, ho5, hb5⟩; obtain ⟨a6, c6, rfl⟩ : ∃ a c, v5 = .slice a out.length c := (by obtain ⟨a, c, e, -⟩ := RS.own ho5; exact ⟨a, c, e⟩))
                    go_ret2
                    exact ⟨⟨_, by rw [← HN.out.2]; rfl, by rw [← HN.out.1]; exact World.ownsRow_nil _ _ _ _⟩, nxt HB0.out (nxt HB3.out (nxt HBEL.out (nxt HBA.out hb5)))⟩
                · have hlt' : l.length ≤ k := by omega
                  have hO := HO.out
                  rw [mapL_end hlt'] at hO
                  have HN := hidM (Prod.mk.inj hO)
                  have hlti : ¬ (k : Int) < (l.length : Int) := by omega
                  clear hO HO
                  go_wp2
                  go_ret2
                  exact ⟨⟨_, by rw [← HN.out.2]; rfl, by rw [← HN.out.1]; exact ho.down3 (nxt HB0.out HB3.out).size⟩, nxt HB0.out (nxt HB3.out hbel)⟩
    · have hres := hres1 hcE
      subst hres
      have hbe : (cE f != 0) = true := by simpa using hcE
      have HN := hidM (Prod.mk.inj (HR.out.trans (mapP_need hcE)))
      clear hr hb1 HPA HP hres1 hres2 r0 r1 r2 r3 r4 hcE
      go_wp2
      go_ret2
      exact ⟨⟨_, by rw [HN.out.2]; rfl, by rw [HN.out.1]; exact World.ownsRow_nil _ _ _ _⟩, nxt HB0.out HB1.out⟩
end Go.Proofs.YtaagllbcmgnbnaaGreatDoor
/- The page's own Open. -/
namespace Go.Proofs.YtaagllbcmgnbnaaGreatDoor
open Go.RowKit
set_option linter.unusedVariables false
set_option maxRecDepth 100000

theorem fTake_size (s : ByteArray) : (fTake s).1.size ≤ s.size := by
  unfold fTake
  repeat' split
  all_goals (first | exact Nat.zero_le _ | (simp only [ByteArray.size_extract]; omega))
theorem openP_err {agg bound : Int} {s : ByteArray} (h : (fTake s).2.2 ≠ 0) : openP agg bound s = ([], (fTake s).2.2) := by unfold openP; rw [if_pos h]
theorem openP_left {agg bound : Int} {s : ByteArray} (h : (fTake s).2.2 = 0) (h1 : (fTake s).2.1 < (s.size : Int)) : openP agg bound s = ([], 7) := by unfold openP; rw [if_neg (by simpa using h), if_pos h1]
theorem openP_rows {agg bound : Int} {s : ByteArray} (h : (fTake s).2.2 = 0) (h1 : ¬ (fTake s).2.1 < (s.size : Int)) : openP agg bound s = rowsTk agg bound.toNat (fTake s).1 := by unfold openP; rw [if_neg (by simpa using h), if_neg h1]
set_option maxHeartbeats 800000 in
theorem ropen_any (j : Jb) (a5 : Option Addr) (n5 c5 : Nat) (s : ByteArray) (w : World) (hw : wayC j.agg j.bound = true) (hs : s.size ≤ 100000) :
    Calls Tryz.prog 74 #[jobV j (.slice a5 n5 c5), .string s] w (RowsR w w.heap.size (openP j.agg j.bound s)) := by
  have hst : ∀ (W : World) (o : Obj), Below W.heap.size W (W.alloc o) := fun W o => (Below.refl _ _).alloc (Nat.le_refl _) _
  obtain ⟨W0, hW0⟩ : ∃ W0 : World, W0 = w.alloc (.cells #[.int .i64 j.id, .string j.prog, .int .i64 j.agg, .int .i64 j.bound, .int .i64 j.fuel, .slice a5 n5 c5, .int .i64 j.parts] 51) := ⟨_, rfl⟩
  have hb0 : Below w.heap.size w W0 := by rw [hW0]; exact hst _ _
  have B0 : BlkJ W0 w.heap.size j (.slice a5 n5 c5) := by rw [hW0]; exact BlkJ.new w _ _
  have HTK := hidM (rftake_any s W0 hs)
  unfold TakePost at HTK
  have HB0 := hidM hb0
  have HW := hidM hW0.symm
  have HFA := hidM (show ∀ W, Below W0.heap.size W0 W → W.cell? ⟨w.heap.size, 2, none⟩ = some (.int .i64 j.agg) ∧ W.cell? ⟨w.heap.size, 3, none⟩ = some (.int .i64 j.bound) from fun W hW => by
    obtain ⟨-, -, z2, z3, -⟩ := (B0.below hW).cells
    exact ⟨z2, z3⟩)
  have hwb := wayC_bd hw
  obtain ⟨bd, hbd⟩ : ∃ bd : Nat, j.bound = (bd : Int) := ⟨j.bound.toNat, by omega⟩
  have HBD := hidM (show j.bound = (bd : Int) ∧ bd = j.bound.toNat ∧ bd ≤ 32 from ⟨hbd, by omega, by omega⟩)
  clear hbd hwb
  have hR1 := fun h => openP_err (agg := j.agg) (bound := j.bound) (s := s) h
  have hR2 := fun h h1 => openP_left (agg := j.agg) (bound := j.bound) (s := s) h h1
  have hR3 := fun h h1 => openP_rows (agg := j.agg) (bound := j.bound) (s := s) h h1
  obtain ⟨⟨G1, G2⟩, hG⟩ : ∃ G, G = openP j.agg j.bound s := ⟨_, rfl⟩
  rw [← hG] at hR1 hR2 hR3 ⊢
  have hts := fTake_size s
  obtain ⟨⟨t, n, er⟩, hT⟩ : ∃ T, T = fTake s := ⟨_, rfl⟩
  rw [← hT] at HTK hR1 hR2 hR3 hts
  simp only at HTK hR1 hR2 hR3 hts
  clear hW0 B0 hst hb0 hT hG
  by_cases he : er = 0
  · subst he
    by_cases hl : n < (s.size : Int)
    · have HG := hidM (Prod.mk.inj (hR2 rfl hl))
      have hd : decide (n < (s.size : Int)) = true := decide_eq_true hl
      clear hR1 hR2 hR3 hl
      go_enter Tryz.func74, Tryz.ntmps74
      go_wp2_with (first
        | (go_at_call 107; rw [HW.out]; refine HTK.out.mono ?_; rintro e W1 ⟨rfl, hb1⟩))
      go_ret2
      exact ⟨⟨_, by rw [HG.out.2]; rfl, by rw [HG.out.1]; exact OwnW.nil _ _⟩, nxt HB0.out hb1⟩
    · have hd : decide (n < (s.size : Int)) = false := decide_eq_false hl
      have hR := hR3 rfl hl
      have HRT := hidM (fun W => rtakeRows_any j.agg bd t W (by omega) HBD.out.2.2)
      rw [← HBD.out.1] at HRT
      rw [HBD.out.2.1, ← hR] at HRT
      clear hR1 hR2 hR3 hl hR
      go_enter Tryz.func74, Tryz.ntmps74
      go_wp2_with (first
        | (go_at_call 107; rw [HW.out]; refine HTK.out.mono ?_; rintro e W1 ⟨rfl, hb1⟩; obtain ⟨z2, z3⟩ := HFA.out W1 hb1)
        | (go_at_call 108; refine (HRT.out _).mono ?_; rintro e W2 ⟨⟨v2, rfl, ho2⟩, hb2⟩))
      go_ret2
      exact ⟨⟨_, rfl, ho2.lower (nxt HB0.out hb1).size⟩, nxt HB0.out (nxt hb1 hb2)⟩
  · have HG := hidM (Prod.mk.inj (hR1 he))
    have hbe : (er != 0) = true := by simpa using he
    clear hR1 hR2 hR3 he
    go_enter Tryz.func74, Tryz.ntmps74
    go_wp2_with (first
      | (go_at_call 107; rw [HW.out]; refine HTK.out.mono ?_; rintro e W1 ⟨rfl, hb1⟩))
    go_ret2
    exact ⟨⟨_, by rw [HG.out.2]; rfl, by rw [HG.out.1]; exact OwnW.nil _ _⟩, nxt HB0.out hb1⟩
end Go.Proofs.YtaagllbcmgnbnaaGreatDoor
