/- Texts laid together: PTOut, PTLaw. -/
import Derived.Test.YtejgcflcckjlpaaGreatDoorBC33M
import Derived.Test.YtejgcflcckjlpaaGreatDoorBC41
import Derived.Test.YtejgcflcckjlpaaGreatDoorBC42
import Derived.Test.YtejgcflcckjlpaaGreatDoorBC44
/- part.Output, of rows that may be. -/
namespace Go.Proofs.YtejgcflcckjlpaaGreatDoor
open Go.RowKit
set_option linter.unusedVariables false
set_option maxRecDepth 100000

theorem RnS.shapeP {w : World} {v : Value} {L : List (List Rw)} (h : RnS w v L) (hl : 0 < L.length) : ∃ b off cap, v = .slice (some ⟨b, off, none⟩) L.length cap ∧ b < w.heap.size ∧ RunsC w b off L := by
  obtain ⟨a, cap, rfl, h⟩ := h
  rcases h with rfl | ⟨b, off, rfl, hb, hc⟩
  · simp at hl
  · exact ⟨b, off, cap, rfl, hb, hc⟩
set_option maxHeartbeats 1000000 in
theorem output_any (agg bound n : Int) (v : Value) (l : List Rw) (w : World) (h : WS w v l) (hcap : CapOk v) (hf : FineR agg bound l) (hwf : WfRs l) (hm : mayP n = true) (hh : Halves w) :
    Calls Tryz.prog 7 #[.int .i64 agg, .int .i64 bound, .int .i64 n, v] w (ByR w (outRes agg n l)) := by
  have hlen := hf.len
  have hsets : ∀ r ∈ l, r.2.2.length ≤ 100000 := fun r hr => by have := (hf.cell r hr).2.2; omega
  have H1 := hidM (rcheck_ok agg bound v l w h hsets hcap hf.ok)
  have H2 := hidM (fun W (hW : Below w.heap.size w W) => parts_any n v l W (h.below hW) (by omega) hsets hwf)
  have hor : ordB l = true := by
    obtain ⟨q1, q2, q3, q4⟩ := okRows_parts hf.ok
    unfold ordB
    rw [decide_eq_true q4, decide_eq_true q2, List.all_eq_true.2 (fun r hr => decide_eq_true (q3 r hr).1)]
    rfl
  have e1 : partsRes n l = (prt n l, 0) := by unfold partsRes; rw [hm, hor]; rfl
  rw [e1] at H2
  have hm8 := mayP_of hm
  have hPl : 0 < (prt n l).length ∧ (prt n l).length ≤ 8 := by rw [show (prt n l).length = n.toNat from partsR_len _ _ _]; omega
  have HRB := hidM (fun (W : World) (u : Value) (m : List Rw) (hmm : m ∈ prt n l) (hu : WS W u m) (hc : CapOk u) => rbytes_ok agg bound u m W hu hc (hf.sub (prt_sub hmm)))
  have HSZ := hidM (fun (m : List Rw) (hmm : m ∈ prt n l) => prt_rows (agg := agg) (bound := bound) hmm hf)
  have HBAD := hidM (show ∀ m ∈ prt n l, ¬ (rowsBy agg m).size ≤ 32768 → outRes agg n l = (⟨#[]⟩, 2) from fun m hmm => outRes_part (agg := agg) (n := n) (l := l) hmm)
  have HLONG := hidM (show ¬ (outB agg (prt n l)).size ≤ 32704 → outRes agg n l = (⟨#[]⟩, 2) from outRes_long)
  have HOK := hidM (show (∀ m ∈ prt n l, (rowsBy agg m).size ≤ 32768) → (outB agg (prt n l)).size ≤ 32704 → outRes agg n l = (outB agg (prt n l), 0) from outRes_ok)
  have HP0 := hh.pos
  generalize prt n l = P at H2 HRB HSZ HBAD HLONG HOK hPl
  generalize outRes agg n l = R at HBAD HLONG HOK ⊢
  have HHW := hidM hh
  obtain ⟨hPl0, hPl8⟩ := hPl
  clear e1 hor hsets hwf hf hh hm8
  obtain ⟨va, vc, rfl, -⟩ := h
  go_enter Tryz.func7, Tryz.ntmps7
  go_wp2_with (first
    | (go_at_call 20; refine H1.out.mono ?_; rintro e W1 ⟨rfl, hb1⟩)
    | (go_at_call 10; refine (H2.out W1 hb1).mono ?_; rintro e W2 ⟨⟨vp, rfl, hrs⟩, hb2⟩; have hrn : RnS W2 vp P := hrs.rns; obtain ⟨g, off, pc, rfl, hgb, hrc⟩ := hrn.shapeP hPl0; clear hrn))
  have hbd := Bld.new W2
  have hb02 := nxt hb1 hb2
  have hb3 := (Below.refl W2.heap.size W2).alloc (Nat.le_refl _) (.cells #[.pointer none, .slice none 0 0] 59)
  have hH2 : Halves W2 := HHW.out.below hb02 HP0
  have hP2 := hH2.pos
  generalize hWB : W2.alloc (.cells #[.pointer none, .slice none 0 0] 59) = W3 at hbd hb3 ⊢
  have hB3 : W2.heap.size ≤ W3.heap.size := by rw [← hWB]; simp
  obtain ⟨B, hB⟩ : ∃ B, B = W2.heap.size := ⟨_, rfl⟩
  rw [← hB] at hbd hB3 ⊢
  have HRC := hidM hrc
  have hwB : w.heap.size ≤ B := by rw [hB]; exact hb02.size
  have HB2 := hidM hb02
  have HH2 := hidM hH2
  have HEB := hidM hB
  have hBle : B ≤ W2.heap.size := by omega
  clear hB hWB hrs hrc hb1 hb2 hb02 H1 H2 hH2
  go_loopw [38] (fun i wr => ∃ k : Nat, k ≤ P.length ∧ i = .int .i64 k ∧ Bld B B (outB agg (P.take k)) wr ∧ Below W2.heap.size W2 wr ∧ Hid (∀ m ∈ P.take k, (rowsBy agg m).size ≤ 32768)) (fun i _ => P.length - (intOf i).toNat)
  case atStart => exact ⟨0, by omega, rfl, hbd, hb3, fun m hm => by simp at hm⟩
  case round =>
    clear hbd hb3 hB3
    rename World => w0
    obtain ⟨k, hk, rfl, hbd, hbel, HSM⟩ := hrel
    have hsz := hbel.size
    by_cases hlt : k < P.length
    · obtain ⟨m, hy⟩ := getSome hlt
      have hmm := List.mem_of_getElem? hy
      obtain ⟨u, hu0, hus, huc⟩ := HRC.out k m hy
      have hu := (hbel.cell (p := ⟨g, off + k, none⟩) hgb).trans hu0
      have HR1 := hidM (HRB.out w0 u m hmm (hus.below hbel) huc)
      have hs1 := HSZ.out m hmm
      have hstep : outB agg (P.take (k + 1)) = outB agg (P.take k) ++ frameOf (rowsBy agg m) := by
        rw [List.take_add_one, hy]
        exact outB_snoc _ _ _
      have hsOut := outB_size agg (P.take k) (fun x hx => HSZ.out x (List.mem_of_mem_take hx))
      have hkl : (P.take k).length ≤ 8 := by rw [List.length_take]; omega
      have hHw0 : Halves w0 := HH2.out.below hbel hP2
      have HBD := hidM hbd
      have HBEL := hidM hbel
      have HB1 := hidM (HBAD.out m hmm)
      have HSM2 := hidM (show (rowsBy agg m).size ≤ 32768 → ∀ x ∈ P.take (k + 1), (rowsBy agg x).size ≤ 32768 from fun hs x hx => by
        rw [List.take_add_one, hy] at hx
        rcases List.mem_append.1 hx with hx | hx
        · exact HSM.out x hx
        · simp at hx; subst hx; exact hs)
      have HST := hidM hstep
      obtain ⟨ua, uc, rfl, -⟩ := id hus
      generalize rowsBy agg m = s at HR1 hs1 HB1 HSM2 HST
      obtain ⟨Z, hZ⟩ : ∃ Z, Z = outB agg (P.take k) := ⟨_, rfl⟩
      obtain ⟨Z1, hZ1⟩ : ∃ Z1, Z1 = outB agg (P.take (k + 1)) := ⟨_, rfl⟩
      have HZ1 := hidM hZ1
      rw [← hZ] at HBD HST hsOut
      rw [← hZ1] at HST
      clear hstep hu0 hus huc hbd hbel HSM hZ hZ1
      by_cases hbig : s.size ≤ 32768
      · have HF := hidM (fun W (hW : Below w0.heap.size w0 W) => fbytes_ok s W hbig (hHw0.below hW hHw0.pos))
        have hfs := frame_size s
        generalize frameOf s = f at HF HST hfs
        go_wp2_with (first
          | (go_at_call 21; refine HR1.out.mono ?_; rintro e W4 ⟨rfl, hb4⟩)
          | (go_at_call 22; refine (HF.out W4 hb4).mono ?_; rintro e W5 ⟨rfl, hb5⟩; have hb05 := nxt hb4 hb5; have HW := hidM (bwrite_any B B Z f W5 (HBD.out.below hb05) (by omega) (by have := hb05.size; omega))))
        refine HW.out.mono ?_
        rintro e W6 ⟨rfl, hbd6, hb6⟩
        have HF6 := hidM (show Bld B B Z1 W6 ∧ Below W2.heap.size W2 W6 from ⟨by rw [HST.out]; exact hbd6, (nxt HBEL.out hb05).trans (by rw [← HEB.out]; exact hb6)⟩)
        clear hbd6 hb6
        go_wp2
        go_roundw
        case rel => exact ⟨k + 1, by omega, by go_num, by rw [← HZ1.out]; exact HF6.out.1, HF6.out.2, HSM2.out hbig⟩
        case measure => simp [intOf]; omega
      · have HF := hidM (fun W => fbytes_big s W (by omega))
        go_wp2_with (first
          | (go_at_call 21; refine HR1.out.mono ?_; rintro e W4 ⟨rfl, hb4⟩)
          | (go_at_call 22; refine (HF.out W4).mono ?_; rintro e W5 ⟨rfl, hw5⟩; subst W5))
        go_ret2
        exact ⟨by rw [HB1.out hbig]; rfl, nxt HB2.out (nxt HBEL.out hb4)⟩
    · have hlt' : P.length ≤ k := by omega
      rw [List.take_of_length_le hlt'] at hbd HSM
      have HC := hidM (bstring_any B B _ w0 hbd (by omega))
      have HL := hidM (blen_any B B _ w0 hbd)
      have HBE := hidM (nxt HB2.out hbel)
      by_cases hlong : (outB agg P).size ≤ 32704
      · have HE := HOK.out HSM.out hlong
        have HE := hidM HE
        generalize outB agg P = s at HC HL hlong HE
        clear hbd HSM HBAD HLONG HOK
        go_wp2_with (first
          | (go_at_call 24; refine HL.out.mono ?_; rintro e W3 ⟨rfl, hw3⟩; subst W3)
          | (go_at_call 25; refine HC.out.mono ?_; rintro e W3 ⟨rfl, hb3⟩))
        go_ret2
        exact ⟨by rw [HE.out]; rfl, HBE.out.trans (hb3.mono hwB)⟩
      · have HE := HLONG.out hlong
        have HE := hidM HE
        generalize outB agg P = s at HC HL hlong HE
        clear hbd HSM HBAD HLONG HOK
        go_wp2_with (first
          | (go_at_call 24; refine HL.out.mono ?_; rintro e W3 ⟨rfl, hw3⟩; subst W3))
        go_ret2
        exact ⟨by rw [HE.out]; rfl, HBE.out⟩
end Go.Proofs.YtejgcflcckjlpaaGreatDoor
/- The law's num, and wakes (stage 11). -/
namespace Go.Proofs.YtejgcflcckjlpaaGreatDoor
open Go.RowKit
set_option linter.unusedVariables false
set_option maxRecDepth 100000

theorem num11_any (e : Int) (w : World) : Calls Tryz.prog 8 #[.int .i64 e] w fun r w' => r = .returned (.int .i64 e) ∧ w' = w := by
  go_enter Tryz.func8, Tryz.ntmps8
  go_wp2
  go_ret
  exact ⟨rfl, rfl⟩
theorem outRes_nil : ∃ s, outRes 1 1 [] = (s, 0) ∧ s.size = 8 := by
  have e1 : prt 1 [] = [[]] := prt_nil 1
  have e2 : outB 1 [[]] = frameOf (rowsBy 1 []) := by show frameOf (rowsBy 1 []) ++ (⟨#[]⟩ : ByteArray) = _; rw [app_nil]
  have e3 : (rowsBy 1 []).size = 0 := rfl
  have e4 : (outB 1 (prt 1 [])).size = 8 := by rw [e1, e2, frame_size, e3]
  refine ⟨outB 1 (prt 1 []), outRes_ok (fun m hm => ?_) (by rw [e4]; omega), e4⟩
  rw [e1] at hm
  simp at hm
  subst hm
  rw [e3]
  omega
theorem wakes11_any (w : World) (h : Halves w) : Calls Tryz.prog 15 #[] w (BoolR w true) := by
  obtain ⟨s, e1, e2⟩ := outRes_nil
  have hf : FineR 1 0 [] := ⟨by decide, fun r hr => by simp at hr, fun r hr => by simp at hr⟩
  have H1 := hidM (output_any 1 0 1 (.slice none 0 0) [] w ⟨none, 0, rfl, .inl rfl⟩ (Nat.le_refl 0) hf (fun r hr => by simp at hr) (by decide) h)
  rw [e1] at H1
  have HN := hidM num11_any
  clear e1 hf h
  go_enter Tryz.func15, Tryz.ntmps15
  go_wp2_with (first
    | (go_at_call 7; refine H1.out.mono ?_; rintro e W1 ⟨rfl, hb1⟩)
    | (go_at_call 8; refine (HN.out _ _).mono ?_; rintro e W2 ⟨rfl, hw2⟩; subst W2))
  go_ret
  exact ⟨rfl, hb1⟩
end Go.Proofs.YtejgcflcckjlpaaGreatDoor
