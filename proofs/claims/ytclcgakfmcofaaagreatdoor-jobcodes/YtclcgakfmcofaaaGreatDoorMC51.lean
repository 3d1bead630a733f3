/- Texts laid together: JROut, PTTake, PTRead. -/
import Derived.Test.YtclcgakfmcofaaaGreatDoorMC50
import Derived.Test.YtclcgakfmcofaaaGreatDoorMC43
import Derived.Test.YtclcgakfmcofaaaGreatDoorMC34
import Derived.Test.YtclcgakfmcofaaaGreatDoorMC33
import Derived.Test.YtclcgakfmcofaaaGreatDoorMC17
import Derived.Test.YtclcgakfmcofaaaGreatDoorMC9
import Derived.Test.YtclcgakfmcofaaaGreatDoorMC37
import Derived.Test.YtclcgakfmcofaaaGreatDoorMC32
import Derived.Test.YtclcgakfmcofaaaGreatDoorMC41
namespace Go.Proofs.YtclcgakfmcofaaaGreatDoor
open Go.RowKit
set_option linter.unusedVariables false
set_option maxRecDepth 100000
set_option maxRecDepth 100000
theorem outB_drop {agg : Int} {P : List (List Rw)} {k : Nat} {m : List Rw} (h : P[k]? = some m) : outB agg P = outB agg (P.take k) ++ (frameOf (rowsBy agg m) ++ outB agg (P.drop (k + 1))) := by
 have hk : k < P.length := (List.getElem?_eq_some_iff.1 h).1
 have e : P.drop k = m :: P.drop (k + 1) := by
  rw [List.drop_eq_getElem_cons hk]
  have : P[k] = m := by rw [List.getElem?_eq_getElem hk] at h; injection h
  rw [this]
 have e2 : P = P.take k ++ (m :: P.drop (k + 1)) := by rw [← e, List.take_append_drop]
 conv => lhs; rw [e2]
 rw [outB_app]
 rfl
theorem prt_at {n : Int} {l m : List Rw} {k : Nat} (h : (prt n l)[k]? = some m) : ∀ r ∈ m, ofP n r.1 = k := by
 have hk : k < n.toNat := by have := (List.getElem?_eq_some_iff.1 h).1; rwa [partsR_len] at this
 rw [partsR_get _ _ hk] at h
 injection h with h
 subst h
 exact fun r hr => (partR_mem.1 hr).2
set_option maxRecDepth 100000
theorem join_prt {agg bound n : Int} {l : List Rw} (hok : okRows agg bound l = true) (hm : mayP n = true) : joinRes agg bound (prt n l) = (l, 0) := by
 obtain ⟨q1, q2, q3, q4⟩ := okRows_parts hok
 have e := gat_parts (joinC agg bound.toNat) (f := ofP n) (l := l) (n := n.toNat) q4 (fun r _ => ofP_lt hm r.1)
 rw [joinRes_ok q1 (fun r hr => okRows_sub (prt_sub hr) hok) (by rw [e]; exact q2), e]
 exact fin_ok rfl
end Go.Proofs.YtclcgakfmcofaaaGreatDoor
