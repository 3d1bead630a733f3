/- The law's argument, opened: runs of rows, records, bytes. -/
import Derived.Test.YtclcgakfmcofaaaGreatDoorMJ2
import Derived.ProofKit
import Derived.OpenShut
import Derived.ShutString
import Derived.ChangeOld
import Derived.Below
import Derived.Deep.Slices
import Derived.OwnWalk
import Derived.ChangeArms
namespace Go.Proofs.YtclcgakfmcofaaaGreatDoor
open Go.ChangeShapes Go.WideShapes Go.ChangeAt Go.RowKit Go.Deep
open Go.ChangeMaps (open_string shut_string)
set_option linter.unusedVariables false
set_option maxRecDepth 100000
/-- A row that came in: numbers that an int64 holds, a text that may be. -/
structure WfR (r : Rw) : Prop where
  k : (-9223372036854775808 ≤ r.1.1 ∧ r.1.1 ≤ 9223372036854775807) ∧ r.1.2.size ≤ 140737488351232
  c : WfC r.2
  l : r.2.2.length ≤ 17592186043904
def WfRs (L : List Rw) : Prop := ∀ r ∈ L, WfR r
/-- Runs of rows. -/
def RunsAt (w : World) (b off : Nat) (L : List (List Rw)) : Prop := ∀ (i : Nat) (l : List Rw), L[i]? = some l → ∃ u, w.cell? ⟨b, off + i, none⟩ = some u ∧ WS w u l ∧ CapOk u
def LLS (w : World) (v : Value) (L : List (List Rw)) : Prop := ∃ a cap, v = .slice a L.length cap ∧ (L = [] ∨ ∃ b off, a = some ⟨b, off, none⟩ ∧ b < w.heap.size ∧ RunsAt w b off L)
theorem RunsAt.below {w w' : World} {b off : Nat} {L : List (List Rw)} (h : RunsAt w b off L) (hb : Below w.heap.size w w') (hlt : b < w.heap.size) : RunsAt w' b off L := fun i l hl => by
  obtain ⟨u, h1, h2, h3⟩ := h i l hl
  exact ⟨u, (hb.cell (p := ⟨b, _, none⟩) hlt).trans h1, h2.below hb, h3⟩
theorem LLS.below {w w' : World} {v : Value} {L : List (List Rw)} (h : LLS w v L) (hb : Below w.heap.size w w') : LLS w' v L := by
  obtain ⟨a, cap, rfl, h⟩ := h
  refine ⟨a, cap, rfl, ?_⟩
  rcases h with h | ⟨b, off, rfl, hlt, h⟩
  · exact .inl h
  · exact .inr ⟨b, off, rfl, Nat.lt_of_lt_of_le hlt hb.size, h.below hb hlt⟩
/-- What comes in. -/
structure In10 (W : World) (agg bound : Int) (vl vv : Value) (x : ByteArray) (L : List (List Rw)) (l : List Rc) : Prop where
  hagg : Num64 agg
  hbound : Num64 bound
  hL : LLS W vl L ∧ L.length ≤ 17592186043904 ∧ ∀ l ∈ L, l.length ≤ 17592186043904 ∧ WfRs l
  hLcap : ∃ a cap, vl = .slice a L.length cap ∧ L.length ≤ cap ∧ cap ≤ 9223372036854775807
  hl : RS W vv l ∧ l.length ≤ 4398046510976 ∧ Wf l
  hcap : ∃ a cap, vv = .slice a l.length cap ∧ l.length ≤ cap ∧ cap ≤ 9223372036854775807
  hx : x.size ≤ 140737488351232
end Go.Proofs.YtclcgakfmcofaaaGreatDoor
