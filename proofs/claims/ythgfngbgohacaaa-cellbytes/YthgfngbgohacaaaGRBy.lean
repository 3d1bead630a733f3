/- The bytes of a cell: the page's. -/
import Derived.Test.YthgfngbgohacaaaGBy
import Derived.Test.YthgfngbgohacaaaRBytes
namespace Go.Proofs.Ythgfngbgohacaaa
open Go.RowKit
set_option linter.unusedVariables false
set_option maxRecDepth 100000

abbrev StrR (w : World) (s : ByteArray) : Ending → World → Prop := fun e w' => e = .returned (.string s) ∧ Below w.heap.size w w'
set_option maxHeartbeats 800000 in
theorem rcbytes_any (agg : Int) (v : Value) (c : Cl) (w : World) (h : CS w v c) (hc : WfC c) (hl : c.2.length ≤ 50000) :
    Calls Try.prog 24 #[.int .i64 agg, v] w (StrR w (cBytes agg c)) := by
  obtain ⟨a, cap, rfl, hn⟩ := h
  obtain ⟨W, hW⟩ : ∃ W : World, w.alloc (.cells #[.int .i64 c.1, .slice a c.2.length cap] 29) = W := ⟨_, rfl⟩
  have hb0 : Below w.heap.size w W := by rw [← hW]; exact (Below.refl w.heap.size w).alloc (Nat.le_refl _) _
  have hB : BlkC W w.heap.size c.1 (.slice a c.2.length cap) := by rw [← hW]; exact BlkC.new w c.1 _
  have hn1 := hn.below hb0
  have HW := hidM hW
  have HB := hidM hB
  have NX := hidM (fun W' (h : Below W.heap.size W W') => nxt hb0 h)
  by_cases h6 : agg = 6
  · subst h6
    rw [show cBytes 6 c = byTo c.2.length c.2 c.2.length by unfold cBytes; rw [if_pos rfl, byTo_end (Nat.le_refl _)]]
    have H2 := hidM (rbytes_any (c.2.length : Int) W (by omega) (by omega))
    have H3 := hidM (fun x (hx : x ∈ c.2) W' => rbytes_any x W' (hc.2 x hx).1 (hc.2 x hx).2)
    have HA := hidM (show ∀ i x, c.2[i]? = some x → ∃ p o, a = some ⟨p, o, none⟩ ∧ ∀ W', Below W.heap.size W W' → W'.cell? ⟨p, o + i, none⟩ = some (.int .i64 x) from fun i x hx => by
      obtain ⟨a', c', e, h⟩ := hn1
      injection e with e1 e2 e3
      subst e1 e3
      rcases h with e | ⟨p, o, rfl, hp, hat⟩
      · rw [e] at hx; simp at hx
      · exact ⟨p, o, rfl, fun W' hW' => hat.below hW' hp i x hx⟩)
    have HZ := hidM (fun k => byTo_len (n := c.2.length) (l := c.2) (k := k))
    clear hn hn1 hb0 hB hW hc
    obtain ⟨n, l⟩ := c
    simp only at *
    obtain ⟨m, hm⟩ : ∃ m, l.length = m := ⟨_, rfl⟩
    rw [hm] at H2 HW HB HZ hl ⊢
    have HM := hidM hm
    clear hm
    go_enter Try.func24, Try.ntmps24
    go_wp2_with (go_at_call 37; rw [HW.out]; refine H2.out.mono ?_; rintro e W3 ⟨rfl, hb3⟩; obtain ⟨d0, d1, -, -⟩ := (HB.out.below hb3).cells)
    rw [← byTo_zero m l]
    go_loopw [5, 6] (fun s i wr => ∃ k : Nat, k ≤ m ∧ i = .int .i64 (k : Int) ∧ s = .string (byTo m l k) ∧ Below W.heap.size W wr) (fun _ i _ => m - (intOf i).toNat)
    case atStart => exact ⟨0, by omega, rfl, rfl, hb3⟩
    case round =>
      obtain ⟨k, hk, rfl, rfl, hbk⟩ := hrel
      obtain ⟨e0, e1, -, -⟩ := (HB.out.below hbk).cells
      by_cases hlt : k < m
      · obtain ⟨x, hx⟩ := getSome (l := l) (i := k) (by have := HM.out; omega)
        obtain ⟨p, o, rfl, hc⟩ := HA.out k x hx
        have c5 := hc _ hbk
        have H3' := hidM (H3.out x (List.mem_of_getElem? hx) wr)
        have HS := hidM (byTo_step (n := m) hx)
        have z1 := HZ.out k
        have z2 := bytes_len x
        clear hx hc
        have hk0 : (0 : Int) ≤ k := by omega
        have hkl : (k : Int) < m := by omega
        generalize bytesOf x = bx at *
        generalize hby : byTo m l k = by0 at *
        go_wp2_with (go_at_call 37; refine H3'.out.mono ?_; rintro e W4 ⟨rfl, hb4⟩)
        go_roundw
        case rel => exact ⟨k + 1, by omega, by go_num, by rw [HS.out], nxt hbk hb4⟩
        case measure => simp [intOf]; omega
      · obtain rfl : k = m := by omega
        go_wp2
        go_ret
        exact ⟨rfl, NX.out _ hbk⟩
  · have h6' : (agg != 6) = true := by simpa using h6
    rw [show cBytes agg c = bytesOf c.1 by unfold cBytes; rw [if_neg h6]]
    have H2 := hidM (rbytes_any c.1 W hc.1.1 hc.1.2)
    clear hn hn1 hb0 hB hW
    go_enter Try.func24, Try.ntmps24
    go_wp2_with (go_at_call 37; rw [HW.out]; refine H2.out.mono ?_; rintro e W3 ⟨rfl, hb3⟩)
    go_ret
    exact ⟨rfl, NX.out _ hb3⟩
end Go.Proofs.Ythgfngbgohacaaa
