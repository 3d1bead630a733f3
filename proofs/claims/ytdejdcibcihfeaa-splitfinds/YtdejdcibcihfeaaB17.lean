/- num.turn, num.turnBack, num.Bytes: what each answers, for every number. -/
import Derived.Test.YtdejdcibcihfeaaRows
import Derived.Test.YtdejdcibcihfeaaB1
import Derived.WalkKit
import Derived.WalkSpells
import Derived.Test.YtdejdcibcihfeaaB16
namespace Go.Proofs.Ytdejdcibcihfeaa
open Go.RowKit
set_option linter.unusedVariables false
set_option maxRecDepth 100000
theorem turnBack_any (u : Int) (w : World) (h0 : 0 ≤ u) (h1 : u ≤ 18446744073709551615) :
    Calls Try.prog 38 #[.int .u64 u] w fun e w' => e = .returned (.int .i64 (zag u)) ∧ w' = w := by
  by_cases h : u % 2 = 1
  · have ht : (bits .and .u64 u 1 == 1) = true := by rw [and1 u h0 h1, h]; rfl
    have H : Hid (bits .xor .i64 (-1) (u / 2) = zag u) := by unfold Hid zag; rw [if_pos h, not_i64 _ (by omega) (by omega)]
    clear h
    go_enter Try.func38, Try.ntmps38
    go_wp2
    go_ret
    exact ⟨ret_int H.out, rfl⟩
  · have ht : (bits .and .u64 u 1 == 1) = false := by rw [and1 u h0 h1]; simp; omega
    have H : Hid (u / 2 = zag u) := by unfold Hid zag; rw [if_neg h]
    clear h
    go_enter Try.func38, Try.ntmps38
    go_wp2
    go_ret
    exact ⟨ret_int H.out, rfl⟩

theorem Try.info5 : (Try.prog.info? 5).map (fun i => (i.zero, i.size, i.bytes)) = some (some (.int .u8 0), 1, 1) := by kernel_rfl

theorem cell_of_row {w : World} {g : Nat} {cur : Array Value} {e : TypeId} {i : Nat} {v : Value} (hh : w.heap[g]? = some (.cells cur e (0, 0))) (hlt : i < cur.size) (he : cur[i]? = some v) : w.cell? ⟨g, i, none⟩ = some v := by
  simp [World.cell?, hh, he]

end Go.Proofs.Ytdejdcibcihfeaa
