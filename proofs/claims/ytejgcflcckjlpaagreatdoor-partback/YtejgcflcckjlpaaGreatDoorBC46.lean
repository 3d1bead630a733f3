/- key.Take; row.Take of the bytes of rows that may be. -/
import Derived.Test.YtejgcflcckjlpaaGreatDoorBC26
import Derived.Test.YtejgcflcckjlpaaGreatDoorBC17
import Derived.Test.YtejgcflcckjlpaaGreatDoorBC1M
import Derived.Test.YtejgcflcckjlpaaGreatDoorBC29
namespace Go.Proofs.YtejgcflcckjlpaaGreatDoor
open Go.RowKit
set_option linter.unusedVariables false

set_option maxHeartbeats 400000 in
theorem text_any (s : ByteArray) (w : World) (hs : s.size ≤ maxLen) :
    Calls Tryz.prog 76 #[.string s] w fun e w' => e = .returned (.tuple #[.string (textOf s).1, .int .i64 (textOf s).2.1, .int .i64 (textOf s).2.2]) ∧ w' = w := by
  have ht := fun W => take_any s W hs
  unfold textOf
  obtain ⟨m, n, e, he⟩ : ∃ m n e, takeOf s = (m, n, e) := ⟨_, _, _, rfl⟩
  have hback := take_back s m n
  rw [he] at hback ht ⊢
  simp only at ht ⊢
  unfold maxLen at hs
  by_cases h0 : e = 0
  · subst h0
    obtain ⟨q, rfl, hq, hm1, hm2, hq10⟩ := hback rfl
    replace hq10 : q ≤ 10 := by
      have := bytes_len m
      rw [hq10, ByteArray.size_extract] at this
      omega
    clear hback he
    simp only [ne_eq, not_true_eq_false, if_false]
    by_cases hneg : m < 0
    · rw [if_pos (.inl hneg)]
      go_enter Tryz.func76, Tryz.ntmps76
      go_wp2_with (go_at_call 75; refine (ht _).mono ?_; rintro e w' ⟨rfl, rfl⟩)
      go_ret3
      exact ⟨rfl, rfl⟩
    by_cases hbig : 64 < m
    · rw [if_pos (.inr hbig)]
      go_enter Tryz.func76, Tryz.ntmps76
      go_wp2_with (go_at_call 75; refine (ht _).mono ?_; rintro e w' ⟨rfl, rfl⟩)
      go_ret3
      exact ⟨rfl, rfl⟩
    rw [if_neg (by omega)]
    obtain ⟨p, rfl⟩ : ∃ p : Nat, m = (p : Int) := ⟨m.toNat, by omega⟩
    by_cases hcut : s.size < q + p
    · rw [if_pos (by omega)]
      have hd : decide ((s.size : Int) < ((q + p : Nat) : Int)) = true := by simp; omega
      go_enter Tryz.func76, Tryz.ntmps76
      go_wp2_with (go_at_call 75; refine (ht _).mono ?_; rintro e w' ⟨rfl, rfl⟩)
      go_ret3
      exact ⟨rfl, rfl⟩
    · rw [if_neg (by omega)]
      have hd : decide ((s.size : Int) < ((q + p : Nat) : Int)) = false := by simp; omega
      go_enter Tryz.func76, Tryz.ntmps76
      go_wp2_with (go_at_call 75; refine (ht _).mono ?_; rintro e w' ⟨rfl, rfl⟩)
      go_ret3
      exact ⟨rfl, rfl⟩
  · simp only [ne_eq, h0, not_false_eq_true, if_true]
    go_enter Tryz.func76, Tryz.ntmps76
    go_wp2_with (go_at_call 75; refine (ht _).mono ?_; rintro e w' ⟨rfl, rfl⟩)
    go_ret3
    exact ⟨rfl, rfl⟩
theorem q10 {s : ByteArray} {m j : Int} (h : takeOf s = (m, j, 0)) : ∃ q : Nat, j = (q : Int) ∧ q ≤ s.size ∧ q ≤ 10 ∧ -9223372036854775808 ≤ m ∧ m ≤ 9223372036854775807 := by
  obtain ⟨q, e, hq, h1, h2, h3⟩ := take_back s m j h
  refine ⟨q, e, hq, ?_, h1, h2⟩
  have := bytes_len m
  rw [h3, ByteArray.size_extract] at this
  omega
theorem text10 (s : ByteArray) : 0 ≤ (textOf s).2.1 ∧ (textOf s).2.1 ≤ 74 := by
  unfold textOf
  split
  · simp
  · next h0 =>
    have h0 : (takeOf s).2.2 = 0 := by simpa using h0
    obtain ⟨q, e, hq, hq1, _⟩ := q10 (s := s) (m := (takeOf s).1) (j := (takeOf s).2.1) (by rw [← h0])
    split
    · simp
    · split
      · simp
      · simp only; omega
theorem loadK {W : World} {b o : Nat} {a : Int} {s : ByteArray} (h0 : W.cell? ⟨b, o, none⟩ = some (.int .i64 a)) (h1 : W.cell? ⟨b, o + 1, none⟩ = some (.string s)) : (loadVar 42 ⟨b, o, none⟩).run Tryz.prog W = .ok (.agg #[.int .i64 a, .string s]) W := by
  have a30 := Tryz.isAgg42
  have z30 := Tryz.sizeOf42
  have hc := run_loadCells_list (P := Tryz.prog) W ⟨b, o, none⟩ [.int .i64 a, .string s] (fun j v hj => by
    match j, hj with
    | 0, hj => simp at hj; subst hj; simpa [Addr.add] using h0
    | 1, hj => simp at hj; subst hj; simpa [Addr.add] using h1)
  simp [loadVar, a30, z30]
  have hc' : (loadCells ⟨b, o, none⟩ 2).run Tryz.prog W = .ok #[.int .i64 a, .string s] W := hc
  rw [hc']
  rfl
set_option maxHeartbeats 400000 in
theorem ktake_any (s : ByteArray) (w : World) (hs : s.size ≤ maxLen) :
    Calls Tryz.prog 67 #[.string s] w fun e w' => e = .returned (.tuple #[.agg #[.int .i64 (kTake s).1.1, .string (kTake s).1.2], .int .i64 (kTake s).2.1, .int .i64 (kTake s).2.2]) ∧ Below w.heap.size w w' := by
  have ht := fun W => take_any s W hs
  unfold kTake
  obtain ⟨m, n, e, he⟩ : ∃ m n e, takeOf s = (m, n, e) := ⟨_, _, _, rfl⟩
  have hback := @q10 s m n
  rw [he] at hback ht ⊢
  simp only at ht ⊢
  by_cases h0 : e = 0
  · subst h0
    obtain ⟨q, rfl, hq, hq10, hm1, hm2⟩ := hback rfl
    clear hback he
    simp only [ne_eq, not_true_eq_false, if_false]
    have hx := fun W => text_any (s.extract q s.size) W (by rw [ByteArray.size_extract]; omega)
    have h74 := text10 (s.extract q s.size)
    simp only [from', Int.toNat_natCast]
    obtain ⟨b, k, f, hr⟩ : ∃ b k f, textOf (s.extract q s.size) = (b, k, f) := ⟨_, _, _, rfl⟩
    simp only [hr] at hx h74 ⊢
    clear hr
    by_cases h1 : f = 0
    · subst h1
      simp only [not_true_eq_false, if_false]
      go_enter Tryz.func67, Tryz.ntmps67
      go_wp2_with (first | (go_at_call 75; refine (ht _).mono ?_; rintro e w' ⟨rfl, rfl⟩) | (go_at_call 76; refine (hx _).mono ?_; rintro e w' ⟨rfl, rfl⟩))
      exact bodyPost_ret (results_cell3 rfl rfl (loadK (boxed w _ _ _).2.2.1 (boxed w _ _ _).2.2.2)) rfl ⟨rfl, (boxed w _ _ _).1⟩
    · simp only [h1, not_false_eq_true, if_true]
      go_enter Tryz.func67, Tryz.ntmps67
      go_wp2_with (first | (go_at_call 75; refine (ht _).mono ?_; rintro e w' ⟨rfl, rfl⟩) | (go_at_call 76; refine (hx _).mono ?_; rintro e w' ⟨rfl, rfl⟩))
      exact bodyPost_ret (results_cell3 rfl rfl (loadK (boxed w _ _ _).2.2.1 (boxed w _ _ _).2.2.2)) rfl ⟨rfl, (boxed w _ _ _).1⟩
  · simp only [ne_eq, h0, not_false_eq_true, if_true]
    go_enter Tryz.func67, Tryz.ntmps67
    go_wp2_with (go_at_call 75; refine (ht _).mono ?_; rintro e w' ⟨rfl, rfl⟩)
    exact bodyPost_ret (results_cell3 rfl rfl (loadK (boxed w _ _ _).2.2.1 (boxed w _ _ _).2.2.2)) rfl ⟨rfl, (boxed w _ _ _).1⟩
end Go.Proofs.YtejgcflcckjlpaaGreatDoor
namespace Go.Proofs.YtejgcflcckjlpaaGreatDoor
open Go.RowKit
set_option linter.unusedVariables false
set_option maxRecDepth 100000

theorem ext_tailK (a b : ByteArray) : (a ++ b).extract a.size (a ++ b).size = b := by
  apply ba_ext
  rw [Lib.extract_data]
  simp [ByteArray.data_append, ByteArray.size_append]
  exact List.take_of_length_le (by simp)
def strN : Value → Nat
  | .string s => s.size
  | _ => 0
theorem okRows_fol {agg bound : Int} {l : List Rw} (h : okRows agg bound l = true) {k : Nat} {r : Rw} (hr : l[k]? = some r) : mayFol (l.take k) r.1 = true := by
  obtain ⟨-, h1, h2, h3⟩ := okRows_parts h
  have hkl := (List.getElem?_eq_some_iff.1 hr).1
  have ht : OkTo agg bound l k := ⟨fun x hx => h2 x (List.mem_of_mem_take hx), List.Pairwise.sublist (List.take_sublist k l) h3, by omega⟩
  by_cases hc : r.1.2.size ≤ 64 ∧ chk agg bound r.2 = true ∧ mayFol (l.take k) r.1 = true
  · exact hc.2.2
  · have := ht.bad hr hc
    rw [h] at this
    cases this
set_option maxHeartbeats 1000000 in
/-- One row off its bytes. -/
theorem takeRow_ok (agg bound : Int) (k : Ky) (c : Cl) (y : ByteArray) (w : World) (hk : k.2.size ≤ 64) (hg : Good k) (hc : OkC agg bound c) (hy : y.size ≤ 900000) :
    Calls Tryz.prog 57 #[.int .i64 agg, .int .i64 bound, .string (kBytes k ++ (cBytes agg c ++ y))] w fun e w' => (∃ s : Sl, e = .returned (.tuple #[.agg #[.int .i64 k.1, .string k.2, .int .i64 c.1, slV s], .int .i64 (((kBytes k).size + (cBytes agg c).size : Nat) : Int), .int .i64 0]) ∧ OwnL w' w.heap.size (slV s) c.2) ∧ Below w.heap.size w w' := by
  obtain ⟨ka, kb⟩ := k
  obtain ⟨c1, c2⟩ := c
  have hrs := rowBy_size (agg := agg) (r := ((ka, kb), (c1, c2))) hk hc.2.2
  unfold rowBy at hrs
  simp only [ByteArray.size_append] at hrs
  have H1 := hidM (fun W => ktake_any (kBytes (ka, kb) ++ (cBytes agg (c1, c2) ++ y)) W (by simp only [ByteArray.size_append]; unfold maxLen; omega))
  rw [kTake_bytes (ka, kb) hk hg.1.1 hg.1.2] at H1
  have H2 := hidM (fun W => ctake_any agg bound (cBytes agg (c1, c2) ++ y) W (by simp only [ByteArray.size_append]; omega))
  rw [take_of_bytes hc.1 hc.2.1] at H2
  simp only at H1 H2
  obtain ⟨S2, hS2⟩ : ∃ S2, S2 = cBytes agg (c1, c2) ++ y := ⟨_, rfl⟩
  obtain ⟨S, hS⟩ : ∃ S, S = kBytes (ka, kb) ++ S2 := ⟨_, rfl⟩
  rw [← hS2] at H1 H2 ⊢
  rw [← hS] at H1 ⊢
  have hex : S.extract (kBytes (ka, kb)).size S.size = S2 := by rw [hS]; exact ext_tailK _ _
  have hqs : (kBytes (ka, kb)).size ≤ S.size := by rw [hS, ByteArray.size_append]; omega
  have hS1 : S.size ≤ 1000000 := by rw [hS, hS2]; simp only [ByteArray.size_append]; omega
  obtain ⟨q, hq⟩ : ∃ q, q = (kBytes (ka, kb)).size := ⟨_, rfl⟩
  obtain ⟨m, hm⟩ : ∃ m, m = (cBytes agg (c1, c2)).size := ⟨_, rfl⟩
  rw [← hq] at H1 hex hqs hrs ⊢
  rw [← hm] at H2 hrs ⊢
  have hqi : (q : Int) ≤ (S.size : Int) := by omega
  clear hS hS2 hq hm hk hg hc hy
  have hst : ∀ (W : World) (o : Obj), Below W.heap.size W (W.alloc o) := fun W o => (Below.refl _ _).alloc (Nat.le_refl _) _
  have HST := hidM hst
  obtain ⟨W0, hW0⟩ : ∃ W0 : World, W0 = w.alloc (.cells #[.int .i64 0, .string ⟨#[]⟩, .int .i64 0, .slice none 0 0] 47) := ⟨_, rfl⟩
  have hb0 : Below w.heap.size w W0 := by rw [hW0]; exact hst _ _
  have B4 : Blk4 W0 w.heap.size (.int .i64 0) (.string ⟨#[]⟩) (.int .i64 0) (.slice none 0 0) := by rw [hW0]; exact Blk4.new w _ _ _ _
  have HW := hidM hW0.symm
  have HB0 := hidM hb0
  have HB4 := hidM B4
  have hlt := B4.lt
  -- what is told behind both calls
  have HFA := hidM (show ∀ (W1 W2 : World) (a2 : Option Addr) (p2 : Nat), Below W0.heap.size W0 W1 → Below (W1.alloc (.cells #[.int .i64 ka, .string kb] 42)).heap.size (W1.alloc (.cells #[.int .i64 ka, .string kb] 42)) W2 → OwnL W2 (W1.alloc (.cells #[.int .i64 ka, .string kb] 42)).heap.size (.slice a2 c2.length p2) c2 →
      (W2.alloc (.cells #[.int .i64 c1, .slice a2 c2.length p2] 45)).cell? ⟨W1.heap.size, 0, none⟩ = some (.int .i64 ka) ∧ (W2.alloc (.cells #[.int .i64 c1, .slice a2 c2.length p2] 45)).cell? ⟨W1.heap.size, 1, none⟩ = some (.string kb) ∧
      Blk4 (W2.alloc (.cells #[.int .i64 c1, .slice a2 c2.length p2] 45)) w.heap.size (.int .i64 0) (.string ⟨#[]⟩) (.int .i64 0) (.slice none 0 0) ∧
      OwnL (W2.alloc (.cells #[.int .i64 c1, .slice a2 c2.length p2] 45)) W0.heap.size (.slice a2 c2.length p2) c2 ∧ Below W0.heap.size W0 (W2.alloc (.cells #[.int .i64 c1, .slice a2 c2.length p2] 45)) from fun W1 W2 a2 p2 h1 h2 h3 => by
    have hk := heap_alloc_new W1 (.cells #[.int .i64 ka, .string kb] 42)
    have g1 := nxt h1 (hst W1 (.cells #[.int .i64 ka, .string kb] 42))
    have g2 := nxt h2 (hst W2 (.cells #[.int .i64 c1, .slice a2 c2.length p2] 45))
    obtain ⟨x0, x1⟩ := blk2 ((g2.block W1.heap.size (by simp)).trans hk)
    exact ⟨x0, x1, B4.below (nxt g1 g2), (h3.below (hst _ _)).lower g1.size, nxt g1 g2⟩)
  clear hW0 B4 hst hb0
  go_enter Tryz.func57, Tryz.ntmps57
  go_wp2_with (first
    | (go_at_call 67; rw [HW.out]; refine (H1.out _).mono ?_; rintro e W1 ⟨rfl, hb1⟩)
    | (go_at_call 68; (try rw [hex]); refine (H2.out _).mono ?_; rintro e W2 ⟨⟨v2, rfl, a2, p2, rfl, ho2⟩, hb2⟩; obtain ⟨x0, x1, xB, xO, xb⟩ := HFA.out W1 W2 a2 p2 hb1 hb2 ho2; obtain ⟨t0, -, -, -, u0, -⟩ := xB.cells; have B1 := xB.set0 (.int .i64 ka); obtain ⟨-, t1, -, -, -, u1, -⟩ := B1.cells; have B2 := B1.set1 (.string kb); obtain ⟨-, -, t2, -, -, -, u2, -⟩ := B2.cells; have B3 := B2.set2 (.int .i64 c1); obtain ⟨-, -, -, t3, -, -, -, u3⟩ := B3.cells; have B5 := B3.set3 (.slice a2 c2.length p2)))
  exact bodyPost_ret (results_cell3 rfl rfl B5.load) rfl ⟨⟨(a2, c2.length, p2), rfl, (own_set1 (own_set1 (own_set1 (own_set1 xO hlt _) hlt _) hlt _) hlt _).lower HB0.out.size⟩,
    below_set1 (below_set1 (below_set1 (below_set1 (nxt HB0.out xb) (Nat.le_refl _) _) (Nat.le_refl _) _) (Nat.le_refl _) _) (Nat.le_refl _) _⟩
set_option maxHeartbeats 1600000 in
theorem rtake_back (agg bound : Int) (l : List Rw) (w : World) (hf : FineR agg bound l) :
    Calls Tryz.prog 44 #[.int .i64 agg, .int .i64 bound, .string (rowsBy agg l)] w (RowsR w w.heap.size (l, 0)) := by
  have hlen := hf.len
  have hw := (okRows_parts hf.ok).1
  have H1 := hidM (fun W => rway_any agg bound W)
  rw [hw] at H1
  go_enter Tryz.func44, Tryz.ntmps44
  go_wp2_with (go_at_call 35; refine (H1.out _).mono ?_; rintro e W1 ⟨rfl, hb1⟩)
  go_loopw [2, 8] (fun s vo wr => ∃ k : Nat, k ≤ l.length ∧ s = .string (rowsBy agg (l.drop k)) ∧ OwnW wr w.heap.size vo (l.take k) ∧ Below w.heap.size w wr) (fun s _ _ => strN s)
  case atStart => exact ⟨0, by omega, rfl, OwnW.nil _ _, hb1⟩
  case round =>
    clear hb1
    rename World => w0
    obtain ⟨k, hk, rfl, ho, hbel⟩ := hrel
    have hsz := hbel.size
    by_cases hlt : k < l.length
    · obtain ⟨⟨⟨ya, yb⟩, yn, yl⟩, hy⟩ := getSome hlt
      obtain ⟨hq1, hq2, hq3⟩ := hf.each (List.mem_of_getElem? hy)
      simp only at hq1 hq2 hq3
      have hsS := hf.sz (m := l.drop k) (fun r hr => List.mem_of_mem_drop hr) (by simp)
      have hs3 := hf.sz (m := l.drop (k + 1)) (fun r hr => List.mem_of_mem_drop hr) (by simp)
      have hdr := rowsBy_drop (agg := agg) hy
      have hsp := rowBy_size (agg := agg) (r := ((ya, yb), (yn, yl))) hq1 hq2.2.2
      unfold rowBy at hsp
      simp only [ByteArray.size_append] at hsp hdr
      have HC := hidM (fun W => takeRow_ok agg bound (ya, yb) (yn, yl) (rowsBy agg (l.drop (k + 1))) W hq1 hq3 hq2 (by omega))
      rw [← hdr] at HC
      obtain ⟨S, hS⟩ : ∃ S, S = rowsBy agg (l.drop k) := ⟨_, rfl⟩
      obtain ⟨S3, hS3⟩ : ∃ S3, S3 = rowsBy agg (l.drop (k + 1)) := ⟨_, rfl⟩
      have HS3 := hidM hS3
      rw [← hS] at HC hsS hdr ⊢
      rw [← hS3] at hdr hs3
      obtain ⟨n, hn⟩ : ∃ n : Nat, n = (kBytes (ya, yb)).size + (cBytes agg (yn, yl)).size := ⟨_, rfl⟩
      rw [← hn] at HC hsp
      have hSn : S.size = n + S3.size := by rw [hdr, hn]; simp only [ByteArray.size_append]; omega
      have hex : S.extract n S.size = S3 := by
        have := ext_tailK (kBytes (ya, yb) ++ cBytes agg (yn, yl)) S3
        rw [ByteArray.size_append, ← hn, show kBytes (ya, yb) ++ cBytes agg (yn, yl) ++ S3 = S by rw [hdr]; apply ba_ext; simp [ByteArray.data_append]] at this
        exact this
      have hSpos : (0 : Int) < (S.size : Int) := by omega
      have hni : (n : Int) ≤ (S.size : Int) := by omega
      have hfo := okRows_fol hf.ok hy
      have hst : ∀ (W : World) (o : Obj), Below W.heap.size W (W.alloc o) := fun W o => (Below.refl _ _).alloc (Nat.le_refl _) _
      obtain ⟨xs, hx, ha⟩ := ho
      have hxl : xs.length = k := by rw [ha.1, List.length_take]; omega
      have hstep : l.take (k + 1) = l.take k ++ [((ya, yb), (yn, yl))] := by rw [List.take_add_one, hy]; rfl
      have HM := hidM (show ∀ (W2 : World) (s1 : Sl), Below w0.heap.size w0 W2 → Calls Tryz.prog 38 #[u8, keyV (ya, yb)] (W2.alloc (.cells #[.int .i64 ya, .string yb, .int .i64 yn, slV s1] 47)) (BoolR (W2.alloc (.cells #[.int .i64 ya, .string yb, .int .i64 yn, slV s1] 47)) true) from fun W2 s1 hb2 => by
        have := mayFollow_any u8 (l.take k) (ya, yb) (W2.alloc (.cells #[.int .i64 ya, .string yb, .int .i64 yn, slV s1] 47)) ((OwnW.ws ⟨xs, hx, ha⟩).below (nxt hb2 (hst _ _))) (by simp; omega)
        rwa [hfo] at this)
      have HT := hidM (show ∀ (W2 W3 : World) (s1 : Sl), Below w0.heap.size w0 W2 → OwnL W2 w0.heap.size (slV s1) yl → Below (W2.alloc (.cells #[.int .i64 ya, .string yb, .int .i64 yn, slV s1] 47)).heap.size (W2.alloc (.cells #[.int .i64 ya, .string yb, .int .i64 yn, slV s1] 47)) W3 →
          Blk4 W3 W2.heap.size (.int .i64 ya) (.string yb) (.int .i64 yn) (slV s1) ∧ ∃ v4 W4, (Builtin.append_ #[29, 29] 29 #[u8, .slice (some ⟨W3.heap.size, 0, none⟩) 1 1]).run Tryz.prog (W3.alloc (.cells #[.int .i64 ya, .string yb, .int .i64 yn, slV s1] 47)) = .ok v4 W4 ∧ OwnW W4 w.heap.size v4 (l.take (k + 1)) ∧ Below w.heap.size w W4 from fun W2 W3 s1 hb2 ho2 hb3 => by
        have g3 := nxt (nxt hb2 (hst W2 (.cells #[.int .i64 ya, .string yb, .int .i64 yn, slV s1] 47))) hb3
        have g4 := nxt g3 (hst W3 (.cells #[.int .i64 ya, .string yb, .int .i64 yn, slV s1] 47))
        have X3 := hx.below g4
        have O3 : OwnL (W3.alloc (.cells #[.int .i64 ya, .string yb, .int .i64 yn, slV s1] 47)) w0.heap.size (slV s1) yl := ((ho2.below (hst _ _)).below hb3).below (hst _ _)
        obtain ⟨v4, W4, u1, X4, u3, -⟩ := append_xs 29 X3 (XS.new W3 ((ya, yb), yn, s1)) (by simp; omega) (by have := g4.size; omega)
        have hk3 := keep_row X3 u3
        refine ⟨(Blk4.new W2 _ _ _ _).below hb3, v4, W4, u1, ⟨_, X4, ?_⟩, (hbel.trans (g4.mono hsz)).grown u3 (by have := g4.size; omega) (own_row X3)⟩
        rw [hstep]
        exact ((ha.keep (.below g4)).keep hk3).snoc ⟨rfl, rfl, (O3.keep hk3).lower hsz⟩)
      have hd1 : decide ((0 : Int) < (S.size : Int)) = true := decide_eq_true hSpos
      have HEX := hidM (show S.extract n (n + S3.size) = S3 by rw [← hSn]; exact hex)
      have HNP := hidM (show 1 ≤ n by omega)
      clear hdr hS hS3 hst hx ha hbel hstep hfo hq1 hq2 hq3 hy hn hsp
      go_wp2_with (first
        | (go_at_call 57; refine (HC.out _).mono ?_; rintro e W2 ⟨⟨⟨s1a, s1b, s1c⟩, rfl, ho2⟩, hb2⟩)
        | (go_at_call 38; refine (HM.out W2 (s1a, s1b, s1c) hb2).mono ?_; rintro e W3 ⟨rfl, hb3⟩; obtain ⟨xB, v4, W4, u1, hown4, hbel4⟩ := HT.out W2 W3 (s1a, s1b, s1c) hb2 ho2 hb3; obtain ⟨t0, t1, t2, t3, -⟩ := xB.cells; have U1 := hidM u1; clear u1)
        | (at_builtin; refine wpList_append_run _ rfl _ _ _ rfl _ _ v4 W4 rfl rfl U1.out ?_))
      have hex' : S.extract n (n + S3.size) = S3 := HEX.out
      rw [hex']
      refine ⟨⟨k + 1, by omega, by rw [HS3.out], hown4, hbel4⟩, ?_⟩
      show S3.size < S.size
      have := HNP.out
      omega
    · have hlt' : l.length ≤ k := by omega
      rw [List.take_of_length_le hlt'] at ho
      have HB := hidM hbel
      rw [show l.drop k = [] from List.drop_eq_nil_of_le hlt', show rowsBy agg [] = ⟨#[]⟩ from rfl]
      go_wp2
      go_ret2
      exact ⟨⟨_, rfl, ho⟩, HB.out⟩
end Go.Proofs.YtejgcflcckjlpaaGreatDoor
