/- Texts laid together: REq, WRecs. -/
import Derived.Test.YtaagllbcmgnbnaaGreatDoorMA12
import Derived.Test.YtaagllbcmgnbnaaGreatDoorMA1
import Derived.Test.YtaagllbcmgnbnaaGreatDoorMA4
import Derived.Test.YtaagllbcmgnbnaaGreatDoorMA2
import Derived.Deep.AppendLies
import Derived.Deep.QuietTactic
import Derived.BigQuiet
import Derived.WalkSmall
import Derived.Maps.AppendAt
/- == at records. -/
namespace Go.Proofs.YtaagllbcmgnbnaaGreatDoor
open Go.RowKit
set_option linter.unusedVariables false
set_option maxRecDepth 100000
end Go.Proofs.YtaagllbcmgnbnaaGreatDoor
/- Records copied and compared. -/
namespace Go.Proofs.YtaagllbcmgnbnaaGreatDoor
open Go.RowKit
set_option linter.unusedVariables false
set_option maxRecDepth 100000

theorem cell_rec_new (w : World) (a : Int) (b : ByteArray) (v : Int) (T : TypeId) : ∀ j u, [Value.int .i64 a, .string b, .int .i64 v][j]? = some u → (w.alloc (.cells #[.int .i64 a, .string b, .int .i64 v] T)).cell? ((⟨w.heap.size, 0, none⟩ : Addr).add j) = some u :=
  fun j u hu => World.news_of_block (heap_alloc_new w _) j u hu
set_option maxHeartbeats 400000 in
theorem copyRecs_any (v : Value) (l : List Rc) (w : World) (h : RS w v l) (hl : l.length ≤ 100000) :
    Calls Tryz.prog 11 #[v] w fun e w' => ∃ v', e = .returned v' ∧ OwnR w' w.heap.size v' l ∧ Below w.heap.size w w' := by
  obtain ⟨i0, hi, hz0, hz1, hz2⟩ := info_parts Tryz.infoRec
  obtain ⟨a, cap, rfl, h⟩ := h
  rcases h with rfl | ⟨b, off, rfl, hb, hat⟩
  · go_enter Tryz.func11, Tryz.ntmps11
    go_wp2
    go_loop [3, 4] (fun n i => n = .slice none 0 0 ∧ i = .int .i64 0) (fun _ _ => 0)
    case atStart => exact ⟨rfl, rfl⟩
    case round =>
      obtain ⟨rfl, rfl⟩ := hrel
      go_wp2
      go_ret
      exact ⟨_, rfl, World.ownsRow_nil _ _ _ _, Below.refl _ _⟩
  · go_enter Tryz.func11, Tryz.ntmps11
    go_wp2
    go_loopw [3, 4] (fun m i wr => ∃ k : Nat, k ≤ l.length ∧ i = .int .i64 k ∧ OwnR wr w.heap.size m (l.take k) ∧ Below w.heap.size w wr) (fun _ i _ => l.length - (intOf i).toNat)
    case atStart => exact ⟨0, by omega, rfl, World.ownsRow_nil _ _ _ _, Below.refl _ _⟩
    case round =>
      obtain ⟨k, hk, rfl, hown, hbel⟩ := hrel
      have hsz := hbel.size
      by_cases hlt : k < l.length
      · obtain ⟨y, hy⟩ := getSome hlt
        obtain ⟨c0, c1, c2⟩ := hat.below hbel hb k y hy
        have hstep : l.take (k + 1) = l.take k ++ [y] := by rw [List.take_add_one, hy]; rfl
        have hlk : (l.take k).length = k := by simp; omega
        obtain ⟨⟨ya, yb⟩, yv⟩ := y
        clear hy
        go_wp2_with (at_builtin; refine wpList_append_own _ rfl _ _ 23 rfl w.heap.size 68 i0 _ 3 32 Tryz.underlying23 hi hz0 hz1 hz2 rfl (by decide) _ _ _ rfl (hown.alloc _) ⟨wr.heap.size, 0, none⟩ 1 1 [.int .i64 ya, .string yb, .int .i64 yv] rfl rfl (cell_rec_new _ _ _ _ _) (rec_cells _ _ _) ?c3 ?c4 ?c5 ?_)
        case c3 => unfold maxLen; omega
        case c4 => omega
        case c5 => first | omega | (simp; omega)
        intro v2 w2 hown2 hgrow2 _
        have hbel2 : Below w.heap.size w w2 := (hbel.alloc hsz _).grown hgrow2 (by simp; omega) (own_row hown)
        have hown3 : OwnR w2 w.heap.size v2 (l.take (k + 1)) := by rw [hstep]; exact OwnR.snoc (x := ((ya, yb), yv)) hown2 hlk.symm
        clear hown2 hgrow2 hown hbel c0 c1 c2
        go_wp2
        go_roundw
        case rel => exact ⟨k + 1, by omega, by go_num, hown3, hbel2⟩
        case measure => simp [intOf]; omega
      · have hlt' : l.length ≤ k := by omega
        have e : l.take k = l := List.take_of_length_le hlt'
        rw [e] at hown
        go_wp2
        go_ret
        exact ⟨_, rfl, hown, hbel⟩
end Go.Proofs.YtaagllbcmgnbnaaGreatDoor
