/- part.allIn, part.takeParts: of what Output wrote. -/
import Derived.Test.YtejgcflcckjlpaaGreatDoorBC33M
import Derived.Test.YtejgcflcckjlpaaGreatDoorBC40
import Derived.Test.YtejgcflcckjlpaaGreatDoorBC46
import Derived.Test.YtejgcflcckjlpaaGreatDoorBC44
import Derived.Test.YtejgcflcckjlpaaGreatDoorBC38
namespace Go.Proofs.YtejgcflcckjlpaaGreatDoor
open Go.RowKit
set_option linter.unusedVariables false
set_option maxRecDepth 100000

set_option maxHeartbeats 800000 in
theorem allIn_any (n : Int) (p : Nat) (v : Value) (l : List Rw) (w : World) (h : WS w v l) (hl : l.length ≤ 100000) (hm : mayP n = true) (hwf : WfRs l) (hk : ∀ r ∈ l, r.1.2.size ≤ 64 ∧ ofP n r.1 = p) :
    Calls Tryz.prog 45 #[.int .i64 p, .int .i64 n, v] w (BoolR w true) := by
  obtain ⟨va, vc, rfl, hsh⟩ := h
  go_enter Tryz.func45, Tryz.ntmps45
  go_wp2
  go_loopw [13] (fun i wr => ∃ k : Nat, k ≤ l.length ∧ i = .int .i64 k ∧ Below w.heap.size w wr) (fun i _ => l.length - (intOf i).toNat)
  case atStart => exact ⟨0, by omega, rfl, Below.refl _ _⟩
  case round =>
    rename World => w0
    obtain ⟨k, hkl, rfl, hbel⟩ := hrel
    have hsz := hbel.size
    by_cases hlt : k < l.length
    · obtain ⟨⟨⟨ya, yb⟩, yn, yl⟩, hy⟩ := getSome hlt
      rcases hsh with rfl | ⟨b, off, rfl, hb, hat⟩
      · simp at hlt
      obtain ⟨c0, c1, c2, s1, p1, c3, n1⟩ := (hat.below hbel hb) k _ hy
      have hnum := (hwf _ (List.mem_of_getElem? hy)).k.1
      obtain ⟨hk1, hk2⟩ := hk _ (List.mem_of_getElem? hy)
      simp only at c0 c1 c2 c3 n1 hnum hk1 hk2
      obtain ⟨Wa, hWa⟩ : ∃ Wa : World, Wa = w0.alloc (.cells #[.int .i64 ya, .string yb, .int .i64 yn, .slice s1 yl.length p1] 47) := ⟨_, rfl⟩
      have hba : Below w0.heap.size w0 Wa := by rw [hWa]; exact (Below.refl _ _).alloc (Nat.le_refl _) _
      have HF := hidM (of_any n (ya, yb) Wa hnum.1 hnum.2)
      rw [ofRes_ok hk1 hm, hk2] at HF
      have HA := hidM hWa.symm
      have HB := hidM (hbel.trans (hba.mono hsz))
      clear hWa hba hbel hat n1 hy hnum hk1 hk2 hk hwf
      go_wp2_with (first
        | (go_at_call 12; rw [HA.out]; refine HF.out.mono ?_; rintro e W1 ⟨rfl, hb1⟩))
      go_roundw
      case rel => exact ⟨k + 1, by omega, by go_num, nxt HB.out hb1⟩
      case measure => simp [intOf]; omega
    · have hlt' : l.length ≤ k := by omega
      go_wp2
      go_ret
      exact ⟨rfl, hbel⟩
/-- What stands behind the partitions that are taken. -/
theorem outB_drop {agg : Int} {P : List (List Rw)} {k : Nat} {m : List Rw} (h : P[k]? = some m) : outB agg P = outB agg (P.take k) ++ (frameOf (rowsBy agg m) ++ outB agg (P.drop (k + 1))) := by
  have hk : k < P.length := (List.getElem?_eq_some_iff.1 h).1
  have e : P.drop k = m :: P.drop (k + 1) := by
    rw [List.drop_eq_getElem_cons hk]
    have : P[k] = m := by rw [List.getElem?_eq_getElem hk] at h; injection h
    rw [this]
  have e2 : P = P.take k ++ (m :: P.drop (k + 1)) := by rw [← e, List.take_append_drop]
  conv => lhs; rw [e2]
  rw [outB_app]
  rfl
theorem prt_at {n : Int} {l m : List Rw} {k : Nat} (h : (prt n l)[k]? = some m) : ∀ r ∈ m, ofP n r.1 = k := by
  have hk : k < n.toNat := by have := (List.getElem?_eq_some_iff.1 h).1; rwa [partsR_len] at this
  rw [partsR_get _ _ hk] at h
  injection h with h
  subst h
  exact fun r hr => (partR_mem.1 hr).2
set_option maxHeartbeats 1600000 in
theorem takeParts_back (agg bound n : Int) (l : List Rw) (w : World) (hf : FineR agg bound l) (hwf : WfRs l) (hm : mayP n = true) (h1 : ∀ m ∈ prt n l, (rowsBy agg m).size ≤ 32768) (h2 : (outB agg (prt n l)).size ≤ 32704) (hh : Halves w) :
    Calls Tryz.prog 27 #[.int .i64 agg, .int .i64 bound, .int .i64 n, .string (outB agg (prt n l))] w fun e w' => (∃ v', e = .returned (.tuple #[v', .int .i64 (outB agg (prt n l)).size, .int .i64 0]) ∧ OwnRs w' w.heap.size v' (prt n l)) ∧ Below w.heap.size w w' := by
  have hm8 := mayP_of hm
  obtain ⟨N, rfl⟩ : ∃ N : Nat, n = (N : Int) := ⟨n.toNat, by omega⟩
  have hPl : (prt (N : Int) l).length = N := by rw [show (prt (N : Int) l).length = (N : Int).toNat from partsR_len _ _ _, Int.toNat_natCast]
  have HTK := hidM (fun (W : World) (m : List Rw) (hmm : m ∈ prt (N : Int) l) => rtake_back agg bound m W (hf.sub (prt_sub hmm)))
  have HIN := hidM (fun (W : World) (k : Nat) (m : List Rw) (v : Value) (hv : WS W v m) (hmm : (prt (N : Int) l)[k]? = some m) =>
    allIn_any (N : Int) k v m W hv (by have := (prt_sub (List.mem_of_getElem? hmm)).length_le; have := hf.len; omega) hm (fun r hr => hwf r ((prt_sub (List.mem_of_getElem? hmm)).subset hr)) (fun r hr => ⟨(hf.each ((prt_sub (List.mem_of_getElem? hmm)).subset hr)).1, prt_at hmm r hr⟩))
  have HS1 := hidM h1
  have hp0 := hh.pos
  generalize prt (N : Int) l = P at HTK HIN HS1 hPl h2 ⊢
  have hNi : (N : Int) = (P.length : Int) := by omega
  have hP8 : P.length ≤ 8 := by omega
  rw [hNi] at HIN ⊢
  clear hNi hPl hm hm8 h1 hwf hf
  obtain ⟨S, hS⟩ : ∃ S, S = outB agg P := ⟨_, rfl⟩
  have HSE := hidM hS
  rw [← hS] at h2 ⊢
  clear hS
  go_enter Tryz.func27, Tryz.ntmps27
  go_wp2
  go_loopw [8, 9, 17] (fun vo no i wr => ∃ k : Nat, k ≤ P.length ∧ i = .int .i64 k ∧ no = .int .i64 ((outB agg (P.take k)).size : Nat) ∧ OwnRs wr w.heap.size vo (P.take k) ∧ Below w.heap.size w wr) (fun _ _ i _ => P.length - (intOf i).toNat)
  case atStart => exact ⟨0, by omega, rfl, rfl, OwnRs.nil _ _, Below.refl _ _⟩
  case round =>
    rename World => w0
    obtain ⟨k, hk, rfl, rfl, ho, hbel⟩ := hrel
    have hsz := hbel.size
    by_cases hlt : k < P.length
    · obtain ⟨m, hy⟩ := getSome hlt
      have hmm := List.mem_of_getElem? hy
      have hs1 := HS1.out m hmm
      have hd := outB_drop (agg := agg) hy
      rw [← HSE.out] at hd
      obtain ⟨A, hA⟩ : ∃ A, A = outB agg (P.take k) := ⟨_, rfl⟩
      obtain ⟨X, hX⟩ : ∃ X, X = outB agg (P.drop (k + 1)) := ⟨_, rfl⟩
      rw [← hA, ← hX] at hd
      have hstep : outB agg (P.take (k + 1)) = A ++ frameOf (rowsBy agg m) := by
        rw [List.take_add_one, hy, hA]
        exact outB_snoc _ _ _
      have hstepP : P.take (k + 1) = P.take k ++ [m] := by rw [List.take_add_one, hy]; rfl
      have hfb := frame_back (rowsBy agg m) X hs1
      have hext : S.extract A.size S.size = frameOf (rowsBy agg m) ++ X := by rw [hd]; exact ext_tail _ _
      have hfs := frame_size (rowsBy agg m)
      have hSs : S.size = A.size + (8 + (rowsBy agg m).size + X.size) := by rw [hd, ByteArray.size_append, ByteArray.size_append, hfs]
      have hh0 : Halves w0 := hh.below hbel hp0
      have HT := hidM (ftake_any (frameOf (rowsBy agg m) ++ X) w0 (by rw [ByteArray.size_append, hfs]; omega) hh0)
      unfold TakePost at HT
      rw [hfb] at HT
      have HR := hidM (fun W => HTK.out W m hmm)
      have HI := hidM (fun (W : World) (v : Value) (hv : WS W v m) => HIN.out W k m v hv hy)
      have hst : ∀ (W : World) (o : Obj), Below W.heap.size W (W.alloc o) := fun W o => (Below.refl _ _).alloc (Nat.le_refl _) _
      have HAP := hidM (show ∀ (W2 : World) (v2 : Value), Below w0.heap.size w0 W2 → OwnW W2 w0.heap.size v2 m → ∃ v4 W4, (Builtin.append_ #[22, 22] 22 #[u8, .slice (some ⟨W2.heap.size, 0, none⟩) 1 1]).run Tryz.prog (W2.alloc (.cells #[v2] 29)) = .ok v4 W4 ∧ OwnRs W4 w.heap.size v4 (P.take (k + 1)) ∧ Below w.heap.size w W4 from fun W2 v2 hb2 ho2 => by
        have G3 := nxt hb2 (hst W2 (.cells #[v2] 29))
        have hcell : (W2.alloc (.cells #[v2] 29)).cell? ⟨W2.heap.size, 0, none⟩ = some v2 := by unfold World.cell?; rw [heap_alloc_new W2 _]; rfl
        obtain ⟨v4, W4, q1, q2, q3, q4⟩ := (ho.below G3).app 22 ((ho2.below (hst W2 _)).lower hsz) hcell (by rw [List.length_take]; omega) (by have := G3.size; omega)
        rw [hstepP]
        exact ⟨v4, W4, q1, q2, (hbel.trans (G3.mono hsz)).grown q3 (by have := G3.size; omega) q4⟩)
      have HST := hidM hstep
      have HAA := hidM hA
      rw [← hA]
      have hAi : (A.size : Int) ≤ (S.size : Int) := by omega
      have hA0 : (0 : Int) ≤ (A.size : Int) := by omega
      have hSle : A.size + (8 + (rowsBy agg m).size) ≤ S.size := by omega
      generalize rowsBy agg m = s at HT HR hs1 hfs hSle hext HST
      generalize frameOf s ++ X = Y at HT hext
      clear hSs hd hX hfb hstep hstepP hst ho hbel hh0 hy hmm hA
      go_wp2_with (first
        | (go_at_call 43; (try rw [hext]); refine HT.out.mono ?_; rintro e W1 ⟨rfl, hb1⟩)
        | (go_at_call 44; refine (HR.out W1).mono ?_; rintro e W2 ⟨⟨v2, rfl, ho2⟩, hb2⟩; have hb02 := nxt hb1 hb2; have HO2 := hidM (ho2.lower hb1.size); have HI2 := hidM (HI.out W2 v2 ho2.ws); obtain ⟨a2, c2, rfl⟩ := id ho2.slice; clear ho2)
        | (go_at_call 45; refine HI2.out.mono ?_; rintro e W3 ⟨rfl, hb3⟩; obtain ⟨v4, W4, q1, hown4, hbel4⟩ := HAP.out W3 _ (nxt hb02 hb3) (HO2.out.below hb3); have U1 := hidM q1; clear q1)
        | (at_builtin; refine wpList_append_run _ rfl _ _ _ rfl _ _ v4 W4 rfl rfl U1.out ?_))
      go_roundw
      case rel => exact ⟨k + 1, by omega, by go_num, by rw [HST.out, ByteArray.size_append, hfs]; go_num, hown4, hbel4⟩
      case measure => simp [intOf]; omega
    · obtain rfl : k = P.length := by omega
      have e : P.take P.length = P := List.take_length
      rw [e] at ho
      have hE := HSE.out
      have HO := hidM ho
      have HB := hidM hbel
      rw [e, ← hE]
      clear ho hbel e hE
      go_wp2
      go_ret3
      exact ⟨⟨_, rfl, HO.out⟩, HB.out⟩
end Go.Proofs.YtejgcflcckjlpaaGreatDoor
