/- part.Read: of what Output wrote. -/
import Derived.Test.YtejgcflcckjlpaaGreatDoorBC47
import Derived.Test.YtejgcflcckjlpaaGreatDoorBC48
namespace Go.Proofs.YtejgcflcckjlpaaGreatDoor
open Go.RowKit
set_option linter.unusedVariables false
set_option maxRecDepth 100000

/-- Rows in partitions, joined: the rows. -/
theorem join_prt {agg bound n : Int} {l : List Rw} (hok : okRows agg bound l = true) (hm : mayP n = true) : joinRes agg bound (prt n l) = (l, 0) := by
  obtain ⟨q1, q2, q3, q4⟩ := okRows_parts hok
  have e := gat_parts (joinC agg bound.toNat) (f := ofP n) (l := l) (n := n.toNat) q4 (fun r _ => ofP_lt hm r.1)
  rw [joinRes_ok q1 (fun r hr => okRows_sub (prt_sub hr) hok) (by rw [e]; exact q2), e]
  exact fin_ok rfl
set_option maxHeartbeats 800000 in
theorem read_back (agg bound n : Int) (l : List Rw) (w : World) (hf : FineR agg bound l) (hwf : WfRs l) (hm : mayP n = true) (h1 : ∀ m ∈ prt n l, (rowsBy agg m).size ≤ 32768) (h2 : (outB agg (prt n l)).size ≤ 32704) (hh : Halves w) :
    Calls Tryz.prog 9 #[.int .i64 agg, .int .i64 bound, .int .i64 n, .string (outB agg (prt n l))] w (RowsR w w.heap.size (l, 0)) := by
  have H1 := hidM (rcheck_ok agg bound (.slice none 0 0) [] w ⟨none, 0, rfl, .inl rfl⟩ (fun r hr => by simp at hr) (Nat.le_refl 0) (okRows_sub (List.nil_sublist l) hf.ok))
  have H2 := hidM (fun W => isNumber_any n W)
  rw [hm] at H2
  have H3 := hidM (fun W (hW : Halves W) => takeParts_back agg bound n l W hf hwf hm h1 h2 hW)
  have hm8 := mayP_of hm
  have H4 := hidM (fun (W : World) (v : Value) (hv : RnS W v (prt n l)) => joins_any agg bound v (prt n l) W hv (fun m hmm r hr => hwf r ((prt_sub hmm).subset hr)) (by rw [show (prt n l).length = n.toNat from partsR_len _ _ _]; omega) (fun m hmm => by
    have hs := prt_sub hmm
    have := hs.length_le
    have := hf.len
    exact ⟨by omega, fun r hr => by have := (hf.cell r (hs.subset hr)).2.2; omega⟩))
  rw [join_prt hf.ok hm] at H4
  have HH := hidM hh
  have hp := hh.pos
  generalize prt n l = P at H3 H4 h2 ⊢
  generalize outB agg P = S at H3 h2 ⊢
  have hi2 : ¬ (32704 : Int) < (S.size : Int) := by omega
  clear h1 hwf hf hh hm hm8
  go_enter Tryz.func9, Tryz.ntmps9
  go_wp2_with (first
    | (go_at_call 20; refine H1.out.mono ?_; rintro e W1 ⟨rfl, hb1⟩)
    | (go_at_call 26; refine (H2.out _).mono ?_; rintro e W2 ⟨rfl, hw2⟩; subst W2)
    | (go_at_call 27; refine (H3.out W1 (HH.out.below hb1 hp)).mono ?_; rintro e W3 ⟨⟨v3, rfl, ho3⟩, hb3⟩; have hb13 := nxt hb1 hb3; have H5 := hidM (H4.out W3 v3 ho3.rns); obtain ⟨a3, c3, rfl, -⟩ := ho3.rns)
    | (go_at_call 28; refine H5.out.mono ?_; rintro e W4 ⟨⟨v4, rfl, ho4⟩, hb4⟩; have hb14 := nxt hb13 hb4; have HO4 := hidM (ho4.lower hb13.size); obtain ⟨a4, c4, rfl⟩ := id ho4.slice))
  go_ret2
  exact ⟨⟨_, rfl, HO4.out⟩, hb14⟩
end Go.Proofs.YtejgcflcckjlpaaGreatDoor
