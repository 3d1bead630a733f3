import Derived.Test.YtclcgakfmcofaaaGreatDoorMW9
import Derived.Test.YtclcgakfmcofaaaGreatDoorMW16
import Derived.Test.YtclcgakfmcofaaaGreatDoorMW14
set_option linter.unusedVariables false
set_option maxRecDepth 100000
namespace Go.Proofs.YtclcgakfmcofaaaGreatDoor
open Go.RowKit
def cq (agg : Int) : List (List Rw) → ByteArray
 | [] => ⟨#[]⟩
 | m :: L => aF (an agg m) ++ cq agg L
theorem oG (agg : Int) (L : List (List Rw)) (m : List Rw) : cq agg (L ++ [m]) = cq agg L ++ aF (an agg m) := by
 induction L with
 | nil => show aF (an agg m) ++ (⟨#[]⟩ : ByteArray) = (⟨#[]⟩ : ByteArray) ++ _; rw [nil_app, app_nil]
 | cons a L ih => show aF (an agg a) ++ cq agg (L ++ [m]) = (aF (an agg a) ++ cq agg L) ++ _; rw [ih, app_assoc]
theorem oH (agg : Int) (L : List (List Rw)) (h : ∀ m ∈ L, (an agg m).size ≤ 800000) : (cq agg L).size ≤ 800008 * L.length := by
 induction L with
 | nil => show (0 : Nat) ≤ _; omega
 | cons a L ih =>
  have h1 := h a (by simp)
  have h2 := ih (fun m hm => h m (by simp [hm]))
  show (aF (an agg a) ++ cq agg L).size ≤ _
  rw [ByteArray.size_append, dv, List.length_cons]
  omega
def bM (agg n : Int) (l : List Rw) : ByteArray × Int :=
 if (∀ m ∈ dM n l, (an agg m).size ≤ 32768) ∧ (cq agg (dM n l)).size ≤ 32704 then (cq agg (dM n l), 0) else (⟨#[]⟩, 2)
theorem outRes_part {agg n : Int} {l m : List Rw} (hm : m ∈ dM n l) (h : ¬ (an agg m).size ≤ 32768) : bM agg n l = (⟨#[]⟩, 2) := by
 unfold bM; rw [if_neg (fun e => h (e.1 m hm))]
theorem ls {agg n : Int} {l : List Rw} (h : ¬ (cq agg (dM n l)).size ≤ 32704) : bM agg n l = (⟨#[]⟩, 2) := by
 unfold bM; rw [if_neg (fun e => h e.2)]
theorem kK {agg n : Int} {l : List Rw} (h1 : ∀ m ∈ dM n l, (an agg m).size ≤ 32768) (h2 : (cq agg (dM n l)).size ≤ 32704) : bM agg n l = (cq agg (dM n l), 0) := by
 unfold bM; rw [if_pos ⟨h1, h2⟩]
theorem okRows_sub {agg bound : Int} {l m : List Rw} (hs : m.Sublist l) (h : ce agg bound l = true) : ce agg bound m = true := by
 obtain ⟨h1, h2, h3, h4⟩ := cT h
 have h5 := hs.length_le
 have h6 : aZ m := h4.sublist hs
 unfold ce
 rw [h1, decide_eq_true (show m.length ≤ 1536 by omega), decide_eq_true h6, List.all_eq_true.2 (fun r hr => by
  obtain ⟨q1, q2⟩ := h3 r (hs.subset hr)
  rw [decide_eq_true q1, q2]
  rfl)]
 rfl
theorem ed.sub {agg bound : Int} {l m : List Rw} (h : ed agg bound l) (hs : m.Sublist l) : ed agg bound m :=
 ⟨okRows_sub hs h.ok, fun r hr => h.cell r (hs.subset hr), fun r hr => h.key r (hs.subset hr)⟩
theorem lW {n : Int} {l m : List Rw} (h : m ∈ dM n l) : m.Sublist l := by
 obtain ⟨p, _, rfl⟩ := List.mem_map.1 (show m ∈ (List.range n.toNat).map (fK (ofP n) l) from h)
 exact List.filter_sublist
theorem prt_rows {n : Int} {l m : List Rw} (h : m ∈ dM n l) {agg bound : Int} (hf : ed agg bound l) : (an agg m).size ≤ 800000 :=
 hf.sz (fun r hr => (lW h).subset hr) (lW h).length_le
end Go.Proofs.YtclcgakfmcofaaaGreatDoor
