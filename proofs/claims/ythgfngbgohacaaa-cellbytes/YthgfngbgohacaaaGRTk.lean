/- Which cell bytes begin with: the page's. -/
import Derived.Test.YthgfngbgohacaaaGTkF
import Derived.Test.YthgfngbgohacaaaGRMay
import Derived.Test.YthgfngbgohacaaaRTake
namespace Go.Proofs.Ythgfngbgohacaaa
open Go.RowKit
set_option linter.unusedVariables false
set_option maxRecDepth 100000

/-- The result's cell and the one that is read. -/
structure TW (w W : World) (n : Int) (v : Value) : Prop where
  bel : Below w.heap.size w W
  br : BlkC W w.heap.size 0 (.slice none 0 0)
  bc : BlkC W (w.heap.size + 1) n v
  sz : w.heap.size + 2 ≤ W.heap.size
theorem tw_new (w : World) (n : Int) : TW w ((w.alloc (.cells #[.int .i64 0, .slice none 0 0] 29)).alloc (.cells #[.int .i64 n, .slice none 0 0] 29)) n (.slice none 0 0) := by
  have n1 := BlkC.new w 0 (.slice none 0 0)
  have n2 := BlkC.new (w.alloc (.cells #[.int .i64 0, .slice none 0 0] 29)) n (.slice none 0 0)
  have st : ∀ (W : World) (o : Obj), Below W.heap.size W (W.alloc o) := fun W o => (Below.refl _ _).alloc (Nat.le_refl _) _
  exact ⟨nxt (st _ _) (st _ _), n1.below (st _ _), by simpa using n2, by simp⟩
theorem TW.next {w W W' : World} {n : Int} {v : Value} (h : TW w W n v) (hb : Below W.heap.size W W') : TW w W' n v :=
  ⟨nxt h.bel hb, h.br.below hb, h.bc.below hb, by have := hb.size; have := h.sz; omega⟩
set_option maxHeartbeats 1000000 in
theorem rctakeN_any (agg : Int) (bd : Nat) (s : ByteArray) (w : World) (h6 : agg ≠ 6) (hs : s.size ≤ 1000000000) :
    Calls Try.prog 22 #[.int .i64 agg, .int .i64 (bd : Int), .string s] w (TakR w (cTake agg bd s)) := by
  have H2 := hidM (fun W => rtake_any s W (by unfold maxLen; omega))
  have h6' : (agg == 6) = false := by simpa using h6
  rw [cTakeN h6]
  obtain ⟨m, q, e, ht⟩ : ∃ m q e, takeOf s = (m, q, e) := ⟨_, _, _, rfl⟩
  rw [ht] at H2 ⊢
  simp only at *
  clear ht
  by_cases he : e = 0
  · subst he
    rw [if_neg (by simp)]
    have hT := tw_new w m
    have H3 := hidM (rcell_any agg bd _ (m, []) ((w.alloc (.cells #[.int .i64 0, .slice none 0 0] 29)).alloc (.cells #[.int .i64 m, .slice none 0 0] 29)) (OwnC.num _ 0 m).cs (by simp))
    have HT := hidM hT
    clear hT
    cases hm : mayC agg bd (m, []) with
    | false =>
      rw [hm] at H3
      simp only [Bool.false_eq_true, if_false]
      go_enter Try.func22, Try.ntmps22
      go_wp2_with (first | (go_at_call 35; refine (H2.out _).mono ?_; rintro e w' ⟨rfl, rfl⟩) | (go_at_call 15; refine H3.out.mono ?_; rintro e W2 ⟨rfl, hb2⟩; have hT2 := HT.out.next hb2; obtain ⟨c0, c1, f0, f1⟩ := hT2.br.cells; obtain ⟨-, c1', -, f1'⟩ := (hT2.br.set0 0).cells))
      exact bodyPost_ret (results_cell3 rfl rfl hT2.br.set.load) rfl (takR_zero hT2.bel (Nat.le_refl _))
    | true =>
      rw [hm] at H3
      simp only [if_true]
      go_enter Try.func22, Try.ntmps22
      go_wp2_with (first | (go_at_call 35; refine (H2.out _).mono ?_; rintro e w' ⟨rfl, rfl⟩) | (go_at_call 15; refine H3.out.mono ?_; rintro e W2 ⟨rfl, hb2⟩; have hT2 := HT.out.next hb2; obtain ⟨c0, c1, f0, f1⟩ := hT2.br.cells; obtain ⟨-, c1', -, f1'⟩ := (hT2.br.set0 m).cells; obtain ⟨d0, d1, -, -⟩ := hT2.bc.cells))
      exact bodyPost_ret (results_cell3 rfl rfl hT2.br.set.load) rfl ⟨⟨_, rfl, OwnC.num _ _ _⟩, below_set hT2.bel (Nat.le_refl _) _ _⟩
  · have he' : (e != 0) = true := by simpa using he
    rw [if_pos he]
    go_enter Try.func22, Try.ntmps22
    go_wp2_with (go_at_call 35; refine (H2.out _).mono ?_; rintro e w' ⟨rfl, rfl⟩)
    exact bodyPost_ret (results_cell3 rfl rfl (BlkC.new w _ _).load) rfl takR_new
/-- What holds all along the reading of a set. -/
structure TkP (w : World) (s : ByteArray) (m : Nat) (R : List Int × Int × Int) (j n : Nat) (l : List Int) (v : Value) (W : World) : Prop where
  rd : rdN (m - j) s n l = R
  len : l.length = j
  fit : n ≤ s.size
  own : OwnL W (w.heap.size + 2) v l
  tw : TW w W 0 v
theorem TkP.app {w : World} {s : ByteArray} {m : Nat} {R : List Int × Int × Int} {j n : Nat} {l : List Int} {v : Value} {W : World} (h : TkP w s m R j n l v W) {v' : Value} {W' : World} {x : Int} (ho : OwnL W' (w.heap.size + 2) v' (l ++ [x])) (hb : ∀ w0, Below (w.heap.size + 2) w0 W → Below (w.heap.size + 2) w0 W') :
    BlkC W' (w.heap.size + 1) 0 v ∧ (OwnL (W'.setCell ⟨w.heap.size + 1, 1, none⟩ v') (w.heap.size + 2) v' (l ++ [x]) ∧ TW w (W'.setCell ⟨w.heap.size + 1, 1, none⟩ v') 0 v') := by
  have hbl := hb W (Below.refl _ _)
  have keep : ∀ {b : Nat} {n : Int} {u : Value}, BlkC W b n u → b < w.heap.size + 2 → BlkC W' b n u := fun h1 h2 => by unfold BlkC; rw [hbl.block _ h2]; exact h1
  have k1 := keep h.tw.br (by omega)
  have k2 := keep h.tw.bc (by omega)
  refine ⟨k2, own_set1 ho (by omega) _, ⟨below_set1 (h.tw.bel.trans (hbl.mono (by omega))) (by omega) _, ?_, k2.set1 _, by have := hbl.size; have := h.tw.sz; simp [World.setCell]; omega⟩⟩
  unfold BlkC
  rw [Below.heap_setCell _ _ _ _ (by show w.heap.size ≠ w.heap.size + 1; omega)]
  exact k1
set_option maxHeartbeats 1600000 in
theorem rctakeS_any (bd : Nat) (s : ByteArray) (w : World) (hs : s.size ≤ 1000000000) (hbd : bd ≤ 32) :
    Calls Try.prog 22 #[.int .i64 6, .int .i64 (bd : Int), .string s] w (TakR w (cTake 6 bd s)) := by
  have H2 := hidM (fun W => rtake_any s W (by unfold maxLen; omega))
  rw [cTake6]
  unfold tSet
  have hfit := take_fit s
  obtain ⟨m, q, e, ht⟩ : ∃ m q e, takeOf s = (m, q, e) := ⟨_, _, _, rfl⟩
  rw [ht] at H2 hfit ⊢
  simp only at *
  clear ht
  by_cases he : e = 0
  · subst he
    obtain ⟨q, rfl, hq, hm⟩ := hfit rfl
    simp only [ne_eq, not_true_eq_false, if_false, Int.toNat_natCast]
    have hT := tw_new w m
    by_cases h0 : m < 0
    · simp only [h0, true_or, if_true]
      have HT := hidM hT
      clear hT hfit
      rw [if_pos (by decide)]
      go_enter Try.func22, Try.ntmps22
      go_wp2_with (go_at_call 35; refine (H2.out _).mono ?_; rintro e w' ⟨rfl, hw⟩; obtain rfl := hw.symm)
      exact bodyPost_ret (results_cell3 rfl rfl HT.out.br.load) rfl ⟨⟨_, rfl, OwnC.num _ _ _⟩, HT.out.bel⟩
    · by_cases h1 : (bd : Int) < m
      · simp only [h1, or_true, if_true]
        have HT := hidM hT
        clear hT hfit
        rw [if_pos (by decide)]
        have h0' : 0 ≤ m := by omega
        go_enter Try.func22, Try.ntmps22
        go_wp2_with (go_at_call 35; refine (H2.out _).mono ?_; rintro e w' ⟨rfl, hw⟩; obtain rfl := hw.symm)
        exact bodyPost_ret (results_cell3 rfl rfl HT.out.br.load) rfl ⟨⟨_, rfl, OwnC.num _ _ _⟩, HT.out.bel⟩
      · rw [if_neg (show ¬ (m < 0 ∨ (bd : Int) < m) by omega)]
        obtain ⟨m, rfl⟩ := Int.eq_ofNat_of_zero_le (show 0 ≤ m by omega)
        rw [Int.toNat_natCast]
        clear hT
        have hT := tw_new w 0
        have hlen := rdN_len m s q []
        have herr := rdN_err m s q []
        obtain ⟨R, hR⟩ : ∃ R, rdN m s q [] = R := ⟨_, rfl⟩
        rw [hR] at hlen herr ⊢
        simp only [List.length_nil, Nat.zero_add] at hlen
        have HS := hidM (show TkP w s m R 0 q [] (.slice none 0 0) _ from ⟨hR, rfl, hq, OwnL.nil _ _, hT⟩)
        have HT := hidM (fun n W => rtake_any (cFrom s n) W (by rw [cFrom_size]; unfold maxLen; omega))
        have HM := hidM hm
        have HE := hidM herr
        have hd1 : decide ((m : Int) < 0) = false := by simp
        have hd2 : decide (bd < m) = false := by simp; omega
        obtain ⟨res, hres⟩ : ∃ res : Cl × Int × Int, (if ¬ R.2.2 = 0 then ((0, []), 0, R.2.2) else if mayC 6 bd (0, R.1) = true then ((0, R.1), R.2.1, 0) else ((0, []), 0, 7)) = res := ⟨_, rfl⟩
        rw [hres]
        have HRES := hidM hres
        clear hR hfit hm hT herr hres
        go_enter Try.func22, Try.ntmps22
        go_wp2_with (go_at_call 35; refine (H2.out _).mono ?_; rintro e w' ⟨rfl, hw⟩; obtain rfl := hw.symm)
        go_loopw [10, 13] (fun n j wr => ∃ (x k : Nat) (l : List Int) (a : Option Addr) (cap : Nat), k ≤ m ∧ x ≤ s.size ∧ n = .int .i64 (x : Int) ∧ j = .int .i64 (k : Int) ∧ Hid (TkP w s m R k x l (.slice a l.length cap) wr)) (fun _ j _ => m - (intOf j).toNat)
        case atStart => exact ⟨q, 0, [], none, 0, by omega, hq, rfl, rfl, HS⟩
        case round =>
          obtain ⟨x, k, l, a, cap, hk, hx, rfl, rfl, HK⟩ := hrel
          obtain ⟨b0, b1, fb0, fb1⟩ := HK.out.tw.bc.cells
          obtain ⟨r0, r1, fr0, fr1⟩ := HK.out.tw.br.cells
          by_cases hlt : k < m
          · have HT' := hidM (HT.out x wr)
            have hrd := HK.out.rd
            obtain ⟨i, hi⟩ : ∃ i, m - k = i + 1 := ⟨m - k - 1, by omega⟩
            rw [hi] at hrd
            have hbad := rd_bad hrd
            have hgood := fun q => rd_good (q := q) hrd
            have hf := take_fit (cFrom s x)
            obtain ⟨t, p, e, ht⟩ : ∃ t p e, takeOf (cFrom s x) = (t, p, e) := ⟨_, _, _, rfl⟩
            rw [ht] at HT' hbad hgood hf
            simp only at HT' hbad hgood hf
            have hs' : s.extract x s.size = cFrom s x := rfl
            clear hrd ht
            by_cases he : e = 0
            · subst he
              obtain ⟨p, rfl, hp, hnum⟩ := hf rfl
              have hgd := hgood p (by simp) rfl
              rw [cFrom_size] at hp
              have HG := hidM hgd
              have HP := hidM hnum
              clear hgood hbad hf hgd hnum
              have hsum : x + p ≤ s.size := by omega
              go_wp2_with (first | (go_at_call 35; refine HT'.out.mono ?_; rintro e w' ⟨rfl, rfl⟩) | (at_builtin; refine wpApp rfl _ _ rfl rfl rfl HK.out.own (by have := HK.out.len; omega) HK.out.tw.sz ?_; intro v' W' ho' hb'; obtain ⟨a2, c2, rfl⟩ := ho'.shape; obtain ⟨kc, ko, kt⟩ := HK.out.app ho' hb'; obtain ⟨z0, z1, z2, z3⟩ := kc.cells))
              go_roundw
              case rel => exact ⟨x + p, k + 1, l ++ [t], _, _, by omega, hsum, by go_num, by go_num, by rw [show m - (k + 1) = i by omega]; exact HG.out, by have := HK.out.len; simp; omega, hsum, by rw [show (l ++ [t]).length = l.length + 1 by simp] at ko ⊢; exact ko, by rw [show (l ++ [t]).length = l.length + 1 by simp] at kt ⊢; exact kt⟩
              case measure => simp [intOf]; omega
            · have hR := hbad he
              subst hR
              have hres := HRES.out
              simp only [he, not_false_eq_true, if_true] at hres
              subst hres
              clear hbad hgood hf
              have he' : (e != 0) = true := by simpa using he
              obtain ⟨-, q1, -, fq1⟩ := (HK.out.tw.br.set0 0).cells
              go_wp2_with (go_at_call 35; refine HT'.out.mono ?_; rintro e w' ⟨rfl, rfl⟩)
              exact bodyPost_ret (results_cell3 rfl rfl HK.out.tw.br.set.load) rfl (takR_zero HK.out.tw.bel (Nat.le_refl _))
          · obtain rfl : k = m := by omega
            have hrd := HK.out.rd
            rw [Nat.sub_self, rdN] at hrd
            subst hrd
            have hres := HRES.out
            simp only [not_true_eq_false, if_false] at hres
            have H3 := hidM (rcell_any 6 bd _ (0, l) wr ⟨a, cap, rfl, HK.out.own.ns⟩ (by show l.length ≤ _; have := HK.out.len; omega))
            have HN := hidM (fun W' (hb : Below wr.heap.size wr W') => (⟨HK.out.tw.next hb, OwnL.below HK.out.own hb⟩ : TW w W' 0 (.slice a l.length cap) ∧ OwnL W' (w.heap.size + 2) (.slice a l.length cap) l))
            cases hm : mayC 6 bd (0, l) with
            | false =>
              rw [hm] at H3 hres
              simp only [Bool.false_eq_true, if_false] at hres
              subst hres
              go_wp2_with (go_at_call 15; refine H3.out.mono ?_; rintro e W2 ⟨rfl, hb2⟩; obtain ⟨hT2, ho2⟩ := HN.out _ hb2; obtain ⟨c0, c1, f0, f1⟩ := hT2.br.cells; obtain ⟨-, c1', -, f1'⟩ := (hT2.br.set0 0).cells)
              exact bodyPost_ret (results_cell3 rfl rfl hT2.br.set.load) rfl (takR_zero hT2.bel (Nat.le_refl _))
            | true =>
              rw [hm] at H3 hres
              simp only [if_true] at hres
              subst hres
              go_wp2_with (go_at_call 15; refine H3.out.mono ?_; rintro e W2 ⟨rfl, hb2⟩; obtain ⟨hT2, ho2⟩ := HN.out _ hb2; obtain ⟨c0, c1, f0, f1⟩ := hT2.br.cells; obtain ⟨-, c1', -, f1'⟩ := (hT2.br.set0 0).cells; obtain ⟨d0, d1, -, -⟩ := hT2.bc.cells)
              exact bodyPost_ret (results_cell3 rfl rfl hT2.br.set.load) rfl ⟨⟨_, rfl, _, _, rfl, (own_set ho2 (by omega) _ _).lower (by omega)⟩, below_set hT2.bel (Nat.le_refl _) _ _⟩
  · have he' : (e != 0) = true := by simpa using he
    simp only [he, ne_eq, not_false_eq_true, if_true]
    go_enter Try.func22, Try.ntmps22
    go_wp2_with (go_at_call 35; refine (H2.out _).mono ?_; rintro e w' ⟨rfl, rfl⟩)
    exact bodyPost_ret (results_cell3 rfl rfl (BlkC.new w _ _).load) rfl takR_new
theorem rctake_any (agg : Int) (bd : Nat) (s : ByteArray) (w : World) (hs : s.size ≤ 1000000000) (hbd : bd ≤ 32) :
    Calls Try.prog 22 #[.int .i64 agg, .int .i64 (bd : Int), .string s] w (TakR w (cTake agg bd s)) := by
  by_cases h6 : agg = 6
  · subst h6
    exact rctakeS_any bd s w hs hbd
  · exact rctakeN_any agg bd s w h6 hs
end Go.Proofs.Ythgfngbgohacaaa
