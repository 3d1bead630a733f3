/- The bytes of a cell: the program's. -/
import Derived.Test.YticpaemmdfmbfaaGJoinF
import Derived.Test.YticpaemmdfmbfaaBytesM
namespace Go.Proofs.Yticpaemmdfmbfaa
open Go.RowKit
set_option linter.unusedVariables false
set_option maxRecDepth 100000

theorem catB_snoc : ∀ (l : List Int) (x : Int), catB (l ++ [x]) = catB l ++ bytesOf x
  | [], x => by
    show bytesOf x ++ (⟨#[]⟩ : ByteArray) = (⟨#[]⟩ : ByteArray) ++ bytesOf x
    apply ba_ext
    simp [ByteArray.data_append]
  | y :: l, x => by
    show bytesOf y ++ catB (l ++ [x]) = bytesOf y ++ catB l ++ bytesOf x
    rw [catB_snoc l x, ByteArray.append_assoc]
theorem catB_len : ∀ (l : List Int), (catB l).size ≤ 10 * l.length
  | [] => Nat.zero_le _
  | x :: l => by
    have := catB_len l
    have := bytes_len x
    rw [catB, ByteArray.size_append, List.length_cons]
    omega
/-- So many numbers' bytes, their number ahead of them. -/
def byTo (n : Nat) (l : List Int) (k : Nat) : ByteArray := bytesOf (n : Int) ++ catB (l.take k)
theorem byTo_step {n : Nat} {l : List Int} {k : Nat} {x : Int} (hx : l[k]? = some x) : byTo n l k ++ bytesOf x = byTo n l (k + 1) := by
  unfold byTo
  rw [take_snoc hx, catB_snoc, ByteArray.append_assoc]
theorem byTo_zero (n : Nat) (l : List Int) : byTo n l 0 = bytesOf (n : Int) := by
  unfold byTo
  show bytesOf (n : Int) ++ (⟨#[]⟩ : ByteArray) = _
  apply ba_ext
  simp [ByteArray.data_append]
theorem byTo_end {n : Nat} {l : List Int} {k : Nat} (hk : l.length ≤ k) : byTo n l k = bytesOf (n : Int) ++ catB l := by unfold byTo; rw [List.take_of_length_le hk]
theorem byTo_len {n : Nat} {l : List Int} {k : Nat} : (byTo n l k).size ≤ 10 + 10 * l.length := by
  unfold byTo
  rw [ByteArray.size_append]
  have := bytes_len (n : Int)
  have := catB_len (l.take k)
  have : (l.take k).length ≤ l.length := by rw [List.length_take]; omega
  omega
def bytesR (agg bound : Int) (c : Cl) : ByteArray × Int := if chk agg bound c then (cBytes agg c, 0) else (⟨#[]⟩, 1)
abbrev ByR (w : World) (r : ByteArray × Int) : Ending → World → Prop := fun e w' => e = .returned (.tuple #[.string r.1, .int .i64 r.2]) ∧ Below w.heap.size w w'
set_option maxHeartbeats 800000 in
theorem cbytes_any (agg bound : Int) (v : Value) (c : Cl) (w : World) (h : CS w v c) (hc : WfC c) (hl : c.2.length ≤ 50000) :
    Calls Try.prog 63 #[.int .i64 agg, .int .i64 bound, v] w (ByR w (bytesR agg bound c)) := by
  obtain ⟨a, cap, rfl, hn⟩ := h
  obtain ⟨W, hW⟩ : ∃ W : World, w.alloc (.cells #[.int .i64 c.1, .slice a c.2.length cap] 60) = W := ⟨_, rfl⟩
  have hb0 : Below w.heap.size w W := by rw [← hW]; exact (Below.refl w.heap.size w).alloc (Nat.le_refl _) _
  have hB : BlkC W w.heap.size c.1 (.slice a c.2.length cap) := by rw [← hW]; exact BlkC.new w c.1 _
  have hn1 := hn.below hb0
  have H1 := hidM (check_any agg bound _ c W ⟨a, cap, rfl, hn1⟩ (by omega))
  have HW := hidM hW
  have HB := hidM hB
  have HL := hidM hb0
  have NX := hidM (fun W' (h : Below W.heap.size W W') => nxt hb0 h)
  unfold bytesR
  cases hch : chk agg bound c with
  | false =>
    rw [hch, show errC false = 1 from rfl] at H1
    simp only [Bool.false_eq_true, if_false]
    clear hn hn1 hb0 hB hW
    go_enter Try.func63, Try.ntmps63
    go_wp2_with (go_at_call 44; rw [HW.out]; refine H1.out.mono ?_; rintro e W2 ⟨rfl, hb2⟩)
    go_ret2
    exact ⟨rfl, NX.out _ hb2⟩
  | true =>
    rw [hch, show errC true = 0 from rfl] at H1
    simp only [if_true]
    obtain ⟨hw, hm⟩ := chk_may hch
    clear hch
    by_cases h6 : agg = 6
    · subst h6
      rw [show cBytes 6 c = byTo c.2.length c.2 c.2.length by unfold cBytes; rw [if_pos rfl, byTo_end (Nat.le_refl _)]]
      have H2 := hidM (fun W' => bytes_any (c.2.length : Int) W' (by omega) (by omega))
      have H3 := hidM (fun x (hx : x ∈ c.2) W' => bytes_any x W' (hc.2 x hx).1 (hc.2 x hx).2)
      have HA := hidM (show ∀ i x, c.2[i]? = some x → ∃ p o, a = some ⟨p, o, none⟩ ∧ ∀ W', Below W.heap.size W W' → W'.cell? ⟨p, o + i, none⟩ = some (.int .i64 x) from fun i x hx => by
        obtain ⟨a', c', e, h⟩ := hn1
        injection e with e1 e2 e3
        subst e1 e3
        rcases h with e | ⟨p, o, rfl, hp, hat⟩
        · rw [e] at hx; simp at hx
        · exact ⟨p, o, rfl, fun W' hW' => hat.below hW' hp i x hx⟩)
      have HZ := hidM (fun k => byTo_len (n := c.2.length) (l := c.2) (k := k))
      clear hn hn1 hb0 hB hm hw hW hc
      obtain ⟨n, l⟩ := c
      simp only at *
      obtain ⟨m, hm⟩ : ∃ m, l.length = m := ⟨_, rfl⟩
      rw [hm] at H1 H2 HW HB HZ hl ⊢
      have HM := hidM hm
      clear hm
      go_enter Try.func63, Try.ntmps63
      go_wp2_with (go_at_call 44; rw [HW.out]; refine H1.out.mono ?_; rintro e W2 ⟨rfl, hb2⟩; obtain ⟨c0, c1, -, -⟩ := (HB.out.below hb2).cells)
      go_wp2_with (go_at_call 77; refine (H2.out _).mono ?_; rintro e W3 ⟨rfl, hb3⟩; have hb3' := nxt hb2 hb3; obtain ⟨d0, d1, -, -⟩ := (HB.out.below hb3').cells)
      rw [← byTo_zero m l]
      go_loopw [9, 31] (fun s i wr => ∃ k : Nat, k ≤ m ∧ i = .int .i64 (k : Int) ∧ s = .string (byTo m l k) ∧ Below W.heap.size W wr) (fun _ i _ => m - (intOf i).toNat)
      case atStart => exact ⟨0, by omega, rfl, rfl, hb3'⟩
      case round =>
        obtain ⟨k, hk, rfl, rfl, hbk⟩ := hrel
        by_cases hlt : k < m
        · obtain ⟨x, hx⟩ := getSome (l := l) (i := k) (by have := HM.out; omega)
          obtain ⟨p, o, rfl, hc⟩ := HA.out k x hx
          have c5 := hc _ hbk
          have H3' := hidM (H3.out x (List.mem_of_getElem? hx) wr)
          have HS := hidM (byTo_step (n := m) hx)
          have z1 := HZ.out k
          have z2 := bytes_len x
          clear hx hc
          have hk0 : (0 : Int) ≤ k := by omega
          have hkl : (k : Int) < m := by omega
          generalize bytesOf x = bx at *
          generalize hby : byTo m l k = by0 at *
          go_wp2_with (go_at_call 77; refine H3'.out.mono ?_; rintro e W4 ⟨rfl, hb4⟩)
          go_roundw
          case rel => exact ⟨k + 1, by omega, by go_num, by rw [HS.out], nxt hbk hb4⟩
          case measure => simp [intOf]; omega
        · obtain rfl : k = m := by omega
          go_wp2
          go_ret2
          exact ⟨rfl, NX.out _ hbk⟩
    · have h6' : (agg != 6) = true := by simpa using h6
      have h6'' : (agg == 6) = false := by simpa using h6
      rw [show cBytes agg c = bytesOf c.1 by unfold cBytes; rw [if_neg h6]]
      have H2 := hidM (fun W' => bytes_any c.1 W' hc.1.1 hc.1.2)
      clear hn hn1 hb0 hB hm hw hW
      go_enter Try.func63, Try.ntmps63
      go_wp2_with (go_at_call 44; rw [HW.out]; refine H1.out.mono ?_; rintro e W2 ⟨rfl, hb2⟩; obtain ⟨c0, c1, -, -⟩ := (HB.out.below hb2).cells)
      go_wp2_with (go_at_call 77; refine (H2.out _).mono ?_; rintro e W3 ⟨rfl, hb3⟩)
      go_ret2
      exact ⟨rfl, NX.out _ (nxt hb2 hb3)⟩
end Go.Proofs.Yticpaemmdfmbfaa
