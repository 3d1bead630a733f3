import Derived.Test.YtclcgakfmcofaaaGreatDoorMC9
import Derived.Test.YtclcgakfmcofaaaGreatDoorMC16
import Derived.Test.YtclcgakfmcofaaaGreatDoorMC14
namespace Go.Proofs.YtclcgakfmcofaaaGreatDoor
open Go.RowKit
set_option linter.unusedVariables false
set_option maxRecDepth 100000
def outB (agg : Int) : List (List Rw) → ByteArray
 | [] => ⟨#[]⟩
 | m :: L => frameOf (rowsBy agg m) ++ outB agg L
theorem outB_snoc (agg : Int) (L : List (List Rw)) (m : List Rw) : outB agg (L ++ [m]) = outB agg L ++ frameOf (rowsBy agg m) := by
 induction L with
 | nil => show frameOf (rowsBy agg m) ++ (⟨#[]⟩ : ByteArray) = (⟨#[]⟩ : ByteArray) ++ _; rw [nil_app, app_nil]
 | cons a L ih => show frameOf (rowsBy agg a) ++ outB agg (L ++ [m]) = (frameOf (rowsBy agg a) ++ outB agg L) ++ _; rw [ih, app_assoc]
theorem outB_app (agg : Int) (L M : List (List Rw)) : outB agg (L ++ M) = outB agg L ++ outB agg M := by
 induction L with
 | nil => show _ = (⟨#[]⟩ : ByteArray) ++ _; rw [nil_app]; rfl
 | cons a L ih => show frameOf (rowsBy agg a) ++ outB agg (L ++ M) = (frameOf (rowsBy agg a) ++ outB agg L) ++ _; rw [ih, app_assoc]
theorem outB_size (agg : Int) (L : List (List Rw)) (h : ∀ m ∈ L, (rowsBy agg m).size ≤ 800000) : (outB agg L).size ≤ 800008 * L.length := by
 induction L with
 | nil => show (0 : Nat) ≤ _; omega
 | cons a L ih =>
  have h1 := h a (by simp)
  have h2 := ih (fun m hm => h m (by simp [hm]))
  show (frameOf (rowsBy agg a) ++ outB agg L).size ≤ _
  rw [ByteArray.size_append, frame_size, List.length_cons]
  omega
def outRes (agg n : Int) (l : List Rw) : ByteArray × Int :=
 if (∀ m ∈ prt n l, (rowsBy agg m).size ≤ 32768) ∧ (outB agg (prt n l)).size ≤ 32704 then (outB agg (prt n l), 0) else (⟨#[]⟩, 2)
theorem outRes_part {agg n : Int} {l m : List Rw} (hm : m ∈ prt n l) (h : ¬ (rowsBy agg m).size ≤ 32768) : outRes agg n l = (⟨#[]⟩, 2) := by
 unfold outRes; rw [if_neg (fun e => h (e.1 m hm))]
theorem outRes_long {agg n : Int} {l : List Rw} (h : ¬ (outB agg (prt n l)).size ≤ 32704) : outRes agg n l = (⟨#[]⟩, 2) := by
 unfold outRes; rw [if_neg (fun e => h e.2)]
theorem outRes_ok {agg n : Int} {l : List Rw} (h1 : ∀ m ∈ prt n l, (rowsBy agg m).size ≤ 32768) (h2 : (outB agg (prt n l)).size ≤ 32704) : outRes agg n l = (outB agg (prt n l), 0) := by
 unfold outRes; rw [if_pos ⟨h1, h2⟩]
theorem outRes_zero {agg n : Int} {l : List Rw} (h : (outRes agg n l).2 = 0) : (∀ m ∈ prt n l, (rowsBy agg m).size ≤ 32768) ∧ (outB agg (prt n l)).size ≤ 32704 ∧ outRes agg n l = (outB agg (prt n l), 0) := by
 unfold outRes at h ⊢
 split at h
 ·next h1 => exact ⟨h1.1, h1.2, if_pos h1⟩
 ·cases h
theorem okRows_sub {agg bound : Int} {l m : List Rw} (hs : m.Sublist l) (h : okRows agg bound l = true) : okRows agg bound m = true := by
 obtain ⟨h1, h2, h3, h4⟩ := okRows_parts h
 have h5 := hs.length_le
 have h6 : RiseK m := h4.sublist hs
 unfold okRows
 rw [h1, decide_eq_true (show m.length ≤ 1536 by omega), decide_eq_true h6, List.all_eq_true.2 (fun r hr => by
  obtain ⟨q1, q2⟩ := h3 r (hs.subset hr)
  rw [decide_eq_true q1, q2]
  rfl)]
 rfl
theorem FineR.sub {agg bound : Int} {l m : List Rw} (h : FineR agg bound l) (hs : m.Sublist l) : FineR agg bound m :=
 ⟨okRows_sub hs h.ok, fun r hr => h.cell r (hs.subset hr), fun r hr => h.key r (hs.subset hr)⟩
theorem prt_sub {n : Int} {l m : List Rw} (h : m ∈ prt n l) : m.Sublist l := by
 obtain ⟨p, _, rfl⟩ := List.mem_map.1 (show m ∈ (List.range n.toNat).map (partR (ofP n) l) from h)
 exact List.filter_sublist
theorem prt_rows {n : Int} {l m : List Rw} (h : m ∈ prt n l) {agg bound : Int} (hf : FineR agg bound l) : (rowsBy agg m).size ≤ 800000 :=
 hf.sz (fun r hr => (prt_sub h).subset hr) (prt_sub h).length_le
end Go.Proofs.YtclcgakfmcofaaaGreatDoor
