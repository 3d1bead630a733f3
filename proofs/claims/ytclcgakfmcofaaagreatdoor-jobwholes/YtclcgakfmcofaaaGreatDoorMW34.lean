/- Texts laid together: GRBy, MRRowB, MTkF, MTk2. -/
import Derived.Test.YtclcgakfmcofaaaGreatDoorMW7
import Derived.Test.YtclcgakfmcofaaaGreatDoorMW27
import Derived.Test.YtclcgakfmcofaaaGreatDoorMW9
set_option linter.unusedVariables false
set_option maxRecDepth 100000
set_option maxHeartbeats 800000
namespace Go.Proofs.YtclcgakfmcofaaaGreatDoor
open Go.RowKit
abbrev StrR (w : World) (s : ByteArray) : Ending → World → Prop := fun e w' => e = .returned (.string s) ∧ Below w.heap.size w w'
theorem rcbytes_any (agg : Int) (v : Value) (c : Cl) (w : World) (h : CS w v c) (hc : WfC c) (hl : c.2.length ≤ 50000) :
  Calls Tryz.prog 143 #[.int .i64 agg, v] w (StrR w (ci agg c)) := by
 obtain ⟨a, cap, rfl, hn⟩ := h
 obtain ⟨W, hW⟩ : ∃ W : World, w.alloc (.cells #[.int .i64 c.1, .slice a c.2.length cap] 127) = W := ⟨_, rfl⟩
 have hb0 : Below w.heap.size w W := by rw [← hW]; exact (Below.refl w.heap.size w).alloc (Nat.le_refl _) _
 have hB : aH W w.heap.size c.1 (.slice a c.2.length cap) := by rw [← hW]; exact aH.new w c.1 _
 have hn1 := hn.below hb0
 have HW := ae hW
 have HB := ae hB
 have NX := ae (fun W' (h : Below W.heap.size W W') => ag hb0 h)
 by_cases h6 : agg = 6
 ·subst h6
  rw [show ci 6 c = iS c.2.length c.2 c.2.length by unfold ci; rw [if_pos rfl, byTo_end (Nat.le_refl _)]]
  have H2 := ae (eV (c.2.length : Int) W (by omega) (by omega))
  have H3 := ae (fun x (hx : x ∈ c.2) W' => eV x W' (hc.2 x hx).1 (hc.2 x hx).2)
  have HA := ae (show ∀ i x, c.2[i]? = some x → ∃ p o, a = some ⟨p, o, none⟩ ∧ ∀ W', Below W.heap.size W W' → W'.cell? ⟨p, o + i, none⟩ = some (.int .i64 x) from fun i x hx => by
   obtain ⟨a', c', e, h⟩ := hn1
   injection e with e1 e2 e3
   subst e1 e3
   rcases h with e | ⟨p, o, rfl, hp, hat⟩
   ·rw [e] at hx; simp at hx
   ·exact ⟨p, o, rfl, fun W' hW' => hat.below hW' hp i x hx⟩)
  have HZ := ae (fun k => byTo_len (n := c.2.length) (l := c.2) (k := k))
  clear hn hn1 hb0 hB hW hc
  obtain ⟨n, l⟩ := c
  simp only at *
  obtain ⟨m, hm⟩ : ∃ m, l.length = m := ⟨_, rfl⟩
  rw [hm] at H2 HW HB HZ hl ⊢
  have HM := ae hm
  clear hm
  go_enter Tryz.func143, Tryz.ntmps143
  go_wp2_with (go_at_call 77; rw [HW.out]; refine H2.out.mono ?_; rintro e W3 ⟨rfl, hb3⟩; obtain ⟨d0, d1, -, -⟩ := (HB.out.below hb3).cells)
  rw [← od m l]
  go_loopw [5, 6] (fun s i wr => ∃ k : Nat, k ≤ m ∧ i = .int .i64 (k : Int) ∧ s = .string (iS m l k) ∧ Below W.heap.size W wr) (fun _ i _ => m - (intOf i).toNat)
  case atStart => exact ⟨0, by omega, rfl, rfl, hb3⟩
  case round =>
   obtain ⟨k, hk, rfl, rfl, hbk⟩ := hrel
   obtain ⟨e0, e1, -, -⟩ := (HB.out.below hbk).cells
   by_cases hlt : k < m
   ·obtain ⟨x, hx⟩ := ak (l := l) (i := k) (by have := HM.out; omega)
    obtain ⟨p, o, rfl, hc⟩ := HA.out k x hx
    have c5 := hc _ hbk
    have H3' := ae (H3.out x (List.mem_of_getElem? hx) wr)
    have HS := ae (oc (n := m) hx)
    have z1 := HZ.out k
    have z2 := aN x
    clear hx hc
    have hk0 : (0 : Int) ≤ k := by omega
    have hkl : (k : Int) < m := by omega
    generalize bytesOf x = bx at *
    generalize hby : iS m l k = by0 at *
    go_wp2_with (go_at_call 77; refine H3'.out.mono ?_; rintro e W4 ⟨rfl, hb4⟩)
    go_roundw
    case rel => exact ⟨k + 1, by omega, by go_num, by rw [HS.out], ag hbk hb4⟩
    case measure => simp [intOf]; omega
   ·obtain rfl : k = m := by omega
    go_wp2
    go_ret
    exact ⟨rfl, NX.out _ hbk⟩
 ·have h6' : (agg != 6) = true := by simpa using h6
  rw [show ci agg c = bytesOf c.1 by unfold ci; rw [if_neg h6]]
  have H2 := ae (eV c.1 W hc.1.1 hc.1.2)
  clear hn hn1 hb0 hB hW
  go_enter Tryz.func143, Tryz.ntmps143
  go_wp2_with (go_at_call 77; rw [HW.out]; refine H2.out.mono ?_; rintro e W3 ⟨rfl, hb3⟩)
  go_ret
  exact ⟨rfl, NX.out _ hb3⟩
theorem rbytes_okM (n : Int) (w : World) (h : Okn n) : Calls Tryz.prog 77 #[.int .i64 n] w fun e w' => e = .returned (.string (bytesOf n)) ∧ Below w.heap.size w w' := eV n w h.1 h.2
theorem rbytes3_any (x : Ky) (w : World) (h : x.2.size ≤ 64) (h1 : -9223372036854775808 ≤ x.1) (h2 : x.1 ≤ 9223372036854775807) :
  Calls Tryz.prog 118 #[.agg #[.int .i64 x.1, .string x.2]] w fun e w' => e = .returned (.string (aT x)) ∧ Below w.heap.size w w' := by
 obtain ⟨a, b⟩ := x
 have l1 := aN a
 have l2 := aN (b.size : Int)
 simp only at h h1 h2
 have hadd : ∀ W, (Op.stringOp .add (bytesOf a) (bytesOf (b.size : Int))).run Tryz.prog W = .ok (.string (bytesOf a ++ bytesOf (b.size : Int))) W := fun W => run_string_add_sum W _ _ (by omega)
 have hadd2 : ∀ W, (Op.stringOp .add (bytesOf a ++ bytesOf (b.size : Int)) b).run Tryz.prog W = .ok (.string (bytesOf a ++ bytesOf (b.size : Int) ++ b)) W := fun W => run_string_add_sum W _ _ (by rw [ByteArray.size_append]; omega)
 have o1 : Okn a := ⟨h1, h2⟩
 have o2 : Okn (b.size : Int) := ⟨by omega, by omega⟩
 unfold aT
 simp only
 clear h h1 h2 l1 l2
 go_enter Tryz.func118, Tryz.ntmps118
 go_wp2
 go_region_held3 (fun W => W.cell? ⟨w.heap.size, 0, none⟩ = some (.int .i64 a) ∧ W.cell? ⟨w.heap.size, 1, none⟩ = some (.string b) ∧ w.heap.size < W.heap.size ∧ Below w.heap.size w W) (first | exact keepB (by assumption) (by assumption) | exact startB w _ a b 124 (iC w a b _).1 (iC w a b _).2.1 (iC w a b _).2.2.1 (iC w a b _).2.2.2)
  (first | (go_at_call 77; refine (rbytes_okM _ _ (by assumption)).mono ?_; rintro e w' ⟨rfl, hb2⟩))
 obtain ⟨_, _, _, hbelW⟩ := ‹_ ∧ _ ∧ _ ∧ Below w.heap.size w _›
 go_wp2
 go_ret
 exact ⟨rfl, hbelW⟩
theorem iK (agg bound : Int) (v : Value) (l : List Rw) (w : World) (h : WS w v l) (hf : ed agg bound l) :
  Calls Tryz.prog 96 #[.int .i64 agg, v] w (StrR w (an agg l)) := by
 obtain ⟨va, vc, rfl, hsh⟩ := h
 have hlen := hf.len
 go_enter Tryz.func96, Tryz.ntmps96
 go_wp2
 go_loopw [5, 6] (fun s i wr => ∃ k : Nat, k ≤ l.length ∧ i = .int .i64 k ∧ s = .string (an agg (l.take k)) ∧ Below w.heap.size w wr) (fun _ i _ => l.length - (intOf i).toNat)
 case atStart => exact ⟨0, by omega, rfl, rfl, Below.refl _ _⟩
 case round =>
  rename World => w0
  obtain ⟨k, hk, rfl, rfl, hbel⟩ := hrel
  by_cases hlt : k < l.length
  ·obtain ⟨⟨⟨ya, yb⟩, yn, yl⟩, hy⟩ := ak hlt
   rcases hsh with hnil | ⟨b, off, rfl, hb, hat⟩
   ·rw [hnil] at hlt; simp at hlt
   obtain ⟨hq1, hq2, hq3⟩ := hf.each (List.mem_of_getElem? hy)
   simp only at hq1 hq2 hq3
   have hpre := hf.sz (m := l.take k) (fun r hr => List.mem_of_mem_take hr) (by simp; omega)
   have hst : an agg (l.take (k + 1)) = an agg (l.take k) ++ aT (ya, yb) ++ ci agg (yn, yl) := by
    rw [List.take_add_one, hy]
    show an agg (l.take k ++ [((ya, yb), (yn, yl))]) = _
    rw [ld]
    apply bT
    simp [fg, ByteArray.data_append]
   have hsp := mB (agg := agg) (r := ((ya, yb), (yn, yl))) hq1 hq2.2.2
   unfold fg at hsp
   simp only [ByteArray.size_append] at hsp
   have hki0 : (0 : Int) ≤ (k : Int) := by omega
   have hki : (k : Int) < (l.length : Int) := by omega
   obtain ⟨a, cap, hcell⟩ : ∃ a cap, ∀ W, Below w0.heap.size w0 W → W.cell? ⟨b, off + k * 4, none⟩ = some (.int .i64 ya) ∧ W.cell? ⟨b, off + k * 4 + 1, none⟩ = some (.string yb) ∧ W.cell? ⟨b, off + k * 4 + 2, none⟩ = some (.int .i64 yn) ∧ W.cell? ⟨b, off + k * 4 + 3, none⟩ = some (.slice a yl.length cap) ∧ NS W (.slice a yl.length cap) yl ∧ Below w0.heap.size w0 W := by
    have hblt : b < w0.heap.size := Nat.lt_of_lt_of_le hb hbel.size
    obtain ⟨c0, c1, c2, a, cap, c3, ns⟩ := (hat.below hbel hb) k _ hy
    exact ⟨a, cap, fun W hW => ⟨(hW.cell (p := ⟨b, _, none⟩) hblt).trans c0, (hW.cell (p := ⟨b, _, none⟩) hblt).trans c1, (hW.cell (p := ⟨b, _, none⟩) hblt).trans c2, (hW.cell (p := ⟨b, _, none⟩) hblt).trans c3, ns.below hW, hW⟩⟩
   have HCE := ae hcell
   obtain ⟨S, hS⟩ : ∃ S, S = an agg (l.take k) := ⟨_, rfl⟩
   rw [← hS] at hpre hst ⊢
   have hadd1 : ∀ W, (Op.stringOp .add S (aT (ya, yb))).run Tryz.prog W = .ok (.string (S ++ aT (ya, yb))) W := fun W => run_string_add_sum W _ _ (by omega)
   have hadd2 : ∀ W, (Op.stringOp .add (S ++ aT (ya, yb)) (ci agg (yn, yl))).run Tryz.prog W = .ok (.string (S ++ aT (ya, yb) ++ ci agg (yn, yl))) W := fun W => run_string_add_sum W _ _ (by rw [ByteArray.size_append]; omega)
   have HK := ae (fun W => rbytes3_any (ya, yb) W hq1 hq3.1.1 hq3.1.2)
   have HC := ae (fun (W : World) (hn : (W.cell? ⟨b, off + k * 4, none⟩ = some (.int .i64 ya) ∧ W.cell? ⟨b, off + k * 4 + 1, none⟩ = some (.string yb) ∧ W.cell? ⟨b, off + k * 4 + 2, none⟩ = some (.int .i64 yn) ∧ W.cell? ⟨b, off + k * 4 + 3, none⟩ = some (.slice a yl.length cap) ∧ NS W (.slice a yl.length cap) yl ∧ Below w0.heap.size w0 W)) => rcbytes_any agg (.agg #[.int .i64 yn, .slice a yl.length cap]) (yn, yl) W ⟨a, cap, rfl, hn.2.2.2.2.1⟩ hq2.2.1 (by have := hq2.2.2; omega))
   have HKEEP := ae (fun (W W' : World) (hn : (W.cell? ⟨b, off + k * 4, none⟩ = some (.int .i64 ya) ∧ W.cell? ⟨b, off + k * 4 + 1, none⟩ = some (.string yb) ∧ W.cell? ⟨b, off + k * 4 + 2, none⟩ = some (.int .i64 yn) ∧ W.cell? ⟨b, off + k * 4 + 3, none⟩ = some (.slice a yl.length cap) ∧ NS W (.slice a yl.length cap) yl ∧ Below w0.heap.size w0 W)) (hb : Below W.heap.size W W') => hcell W' (ag hn.2.2.2.2.2 hb))
   have HST := ae hst
   have HBEL := ae hbel
   clear hcell hat hy hst hS hsp hpre hq1 hq2 hq3 hbel
   go_wp2
   go_region_held3 (fun W => W.cell? ⟨b, off + k * 4, none⟩ = some (.int .i64 ya) ∧ W.cell? ⟨b, off + k * 4 + 1, none⟩ = some (.string yb) ∧ W.cell? ⟨b, off + k * 4 + 2, none⟩ = some (.int .i64 yn) ∧ W.cell? ⟨b, off + k * 4 + 3, none⟩ = some (.slice a yl.length cap) ∧ NS W (.slice a yl.length cap) yl ∧ Below w0.heap.size w0 W)
    (first
     | exact HCE.out _ (Below.refl w0.heap.size w0).drew
     | exact HKEEP.out _ _ (by assumption) (by assumption))
    (first
     | (go_at_call 118; refine (HK.out _).mono ?_; rintro e W1 ⟨rfl, hb1⟩)
     | (go_at_call 143; refine (HC.out _ (by assumption)).mono ?_; rintro e W2 ⟨rfl, hb2⟩))
   obtain ⟨-, -, -, -, -, hbW⟩ := ‹_ ∧ _ ∧ _ ∧ _ ∧ NS _ (.slice a yl.length cap) yl ∧ Below w0.heap.size w0 _›
   go_wp2
   go_roundw
   case rel => exact ⟨k + 1, by omega, by go_num, by rw [HST.out], ag HBEL.out hbW⟩
   case measure => simp [intOf]; omega
  ·have hlt' : l.length ≤ k := by omega
   rw [List.take_of_length_le hlt']
   go_wp2
   go_ret
   exact ⟨rfl, hbel⟩
end Go.Proofs.YtclcgakfmcofaaaGreatDoor
