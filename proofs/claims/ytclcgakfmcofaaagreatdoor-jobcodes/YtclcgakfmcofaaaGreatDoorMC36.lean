/- Texts laid together: GRTk, MRTk. -/
import Derived.Test.YtclcgakfmcofaaaGreatDoorMC7
import Derived.Test.YtclcgakfmcofaaaGreatDoorMC35
import Derived.Test.YtclcgakfmcofaaaGreatDoorMC27
import Derived.Test.YtclcgakfmcofaaaGreatDoorMC34
import Derived.Test.YtclcgakfmcofaaaGreatDoorMC8
namespace Go.Proofs.YtclcgakfmcofaaaGreatDoor
open Go.RowKit
set_option linter.unusedVariables false
set_option maxRecDepth 100000
structure TW (w W : World) (n : Int) (v : Value) : Prop where
 bel : Below w.heap.size w W
 br : BlkC W w.heap.size 0 (.slice none 0 0)
 bc : BlkC W (w.heap.size + 1) n v
 sz : w.heap.size + 2 ≤ W.heap.size
theorem tw_new (w : World) (n : Int) : TW w ((w.alloc (.cells #[.int .i64 0, .slice none 0 0] 127)).alloc (.cells #[.int .i64 n, .slice none 0 0] 127)) n (.slice none 0 0) := by
 have n1 := BlkC.new w 0 (.slice none 0 0)
 have n2 := BlkC.new (w.alloc (.cells #[.int .i64 0, .slice none 0 0] 127)) n (.slice none 0 0)
 have st : ∀ (W : World) (o : Obj), Below W.heap.size W (W.alloc o) := fun W o => (Below.refl _ _).alloc (Nat.le_refl _) _
 exact ⟨nxt (st _ _) (st _ _), n1.below (st _ _), by simpa using n2, by simp⟩
theorem TW.next {w W W' : World} {n : Int} {v : Value} (h : TW w W n v) (hb : Below W.heap.size W W') : TW w W' n v :=
 ⟨nxt h.bel hb, h.br.below hb, h.bc.below hb, by have := hb.size; have := h.sz; omega⟩
set_option maxHeartbeats 1000000 in
theorem rctakeN_any (agg : Int) (bd : Nat) (s : ByteArray) (w : World) (h6 : agg ≠ 6) (hs : s.size ≤ 1000000000) :
  Calls Tryz.prog 116 #[.int .i64 agg, .int .i64 (bd : Int), .string s] w (TakR w (cTake agg bd s)) := by
 have H2 := hidM (fun W => rtake_any s W (by unfold maxLen; omega))
 have h6' : (agg == 6) = false := by simpa using h6
 rw [cTakeN h6]
 obtain ⟨m, q, e, ht⟩ : ∃ m q e, takeOf s = (m, q, e) := ⟨_, _, _, rfl⟩
 rw [ht] at H2 ⊢
 simp only at *
 clear ht
 by_cases he : e = 0
 ·subst he
  rw [if_neg (by simp)]
  have hT := tw_new w m
  have H3 := hidM (rcell_any agg bd _ (m, []) ((w.alloc (.cells #[.int .i64 0, .slice none 0 0] 127)).alloc (.cells #[.int .i64 m, .slice none 0 0] 127)) (OwnC.num _ 0 m).cs (by simp))
  have HT := hidM hT
  clear hT
  cases hm : mayC agg bd (m, []) with
  | false =>
   rw [hm] at H3
   simp only [Bool.false_eq_true, if_false]
   go_enter Tryz.func116, Tryz.ntmps116
   go_wp2_with (first | (go_at_call 83; refine (H2.out _).mono ?_; rintro e w' ⟨rfl, rfl⟩) | (go_at_call 72; refine H3.out.mono ?_; rintro e W2 ⟨rfl, hb2⟩; have hT2 := HT.out.next hb2; obtain ⟨c0, c1, f0, f1⟩ := hT2.br.cells; obtain ⟨-, c1', -, f1'⟩ := (hT2.br.set0 0).cells))
   exact bodyPost_ret (results_cell3 rfl rfl hT2.br.set.load) rfl (takR_zero hT2.bel (Nat.le_refl _))
  | true =>
   rw [hm] at H3
   simp only [if_true]
   go_enter Tryz.func116, Tryz.ntmps116
   go_wp2_with (first | (go_at_call 83; refine (H2.out _).mono ?_; rintro e w' ⟨rfl, rfl⟩) | (go_at_call 72; refine H3.out.mono ?_; rintro e W2 ⟨rfl, hb2⟩; have hT2 := HT.out.next hb2; obtain ⟨c0, c1, f0, f1⟩ := hT2.br.cells; obtain ⟨-, c1', -, f1'⟩ := (hT2.br.set0 m).cells; obtain ⟨d0, d1, -, -⟩ := hT2.bc.cells))
   exact bodyPost_ret (results_cell3 rfl rfl hT2.br.set.load) rfl ⟨⟨_, rfl, OwnC.num _ _ _⟩, below_set hT2.bel (Nat.le_refl _) _ _⟩
 ·have he' : (e != 0) = true := by simpa using he
  rw [if_pos he]
  go_enter Tryz.func116, Tryz.ntmps116
  go_wp2_with (go_at_call 83; refine (H2.out _).mono ?_; rintro e w' ⟨rfl, rfl⟩)
  exact bodyPost_ret (results_cell3 rfl rfl (BlkC.new w _ _).load) rfl takR_new
structure TkP (w : World) (s : ByteArray) (m : Nat) (R : List Int × Int × Int) (j n : Nat) (l : List Int) (v : Value) (W : World) : Prop where
 rd : rdN (m - j) s n l = R
 len : l.length = j
 fit : n ≤ s.size
 own : OwnL W (w.heap.size + 2) v l
 tw : TW w W 0 v
theorem TkP.app {w : World} {s : ByteArray} {m : Nat} {R : List Int × Int × Int} {j n : Nat} {l : List Int} {v : Value} {W : World} (h : TkP w s m R j n l v W) {v' : Value} {W' : World} {x : Int} (ho : OwnL W' (w.heap.size + 2) v' (l ++ [x])) (hb : ∀ w0, Below (w.heap.size + 2) w0 W → Below (w.heap.size + 2) w0 W') :
  BlkC W' (w.heap.size + 1) 0 v ∧ (OwnL (W'.setCell ⟨w.heap.size + 1, 1, none⟩ v') (w.heap.size + 2) v' (l ++ [x]) ∧ TW w (W'.setCell ⟨w.heap.size + 1, 1, none⟩ v') 0 v') := by
 have hbl := hb W (Below.refl _ _)
 have keep : ∀ {b : Nat} {n : Int} {u : Value}, BlkC W b n u → b < w.heap.size + 2 → BlkC W' b n u := fun h1 h2 => by unfold BlkC; rw [hbl.block _ h2]; exact h1
 have k1 := keep h.tw.br (by omega)
 have k2 := keep h.tw.bc (by omega)
 refine ⟨k2, own_set1 ho (by omega) _, ⟨below_set1 (h.tw.bel.trans (hbl.mono (by omega))) (by omega) _, ?_, k2.set1 _, by have := hbl.size; have := h.tw.sz; simp [World.setCell]; omega⟩⟩
 unfold BlkC
 rw [Below.heap_setCell _ _ _ _ (by show w.heap.size ≠ w.heap.size + 1; omega)]
 exact k1
set_option maxHeartbeats 1600000 in
theorem rctakeS_any (bd : Nat) (s : ByteArray) (w : World) (hs : s.size ≤ 1000000000) (hbd : bd ≤ 32) :
  Calls Tryz.prog 116 #[.int .i64 6, .int .i64 (bd : Int), .string s] w (TakR w (cTake 6 bd s)) := by
 have H2 := hidM (fun W => rtake_any s W (by unfold maxLen; omega))
 rw [cTake6]
 unfold tSet
 have hfit := take_fit s
 obtain ⟨m, q, e, ht⟩ : ∃ m q e, takeOf s = (m, q, e) := ⟨_, _, _, rfl⟩
 rw [ht] at H2 hfit ⊢
 simp only at *
 clear ht
 by_cases he : e = 0
 ·subst he
  obtain ⟨q, rfl, hq, hm⟩ := hfit rfl
  simp only [ne_eq, not_true_eq_false, if_false, Int.toNat_natCast]
  have hT := tw_new w m
  by_cases h0 : m < 0
  ·simp only [h0, true_or, if_true]
   have HT := hidM hT
   clear hT hfit
   rw [if_pos (by decide)]
   go_enter Tryz.func116, Tryz.ntmps116
   go_wp2_with (go_at_call 83; refine (H2.out _).mono ?_; rintro e w' ⟨rfl, hw⟩; obtain rfl := hw.symm)
   exact bodyPost_ret (results_cell3 rfl rfl HT.out.br.load) rfl ⟨⟨_, rfl, OwnC.num _ _ _⟩, HT.out.bel⟩
  ·by_cases h1 : (bd : Int) < m
   ·simp only [h1, or_true, if_true]
    have HT := hidM hT
    clear hT hfit
    rw [if_pos (by decide)]
    have h0' : 0 ≤ m := by omega
    go_enter Tryz.func116, Tryz.ntmps116
    go_wp2_with (go_at_call 83; refine (H2.out _).mono ?_; rintro e w' ⟨rfl, hw⟩; obtain rfl := hw.symm)
    exact bodyPost_ret (results_cell3 rfl rfl HT.out.br.load) rfl ⟨⟨_, rfl, OwnC.num _ _ _⟩, HT.out.bel⟩
   ·rw [if_neg (show ¬ (m < 0 ∨ (bd : Int) < m) by omega)]
    obtain ⟨m, rfl⟩ := Int.eq_ofNat_of_zero_le (show 0 ≤ m by omega)
    rw [Int.toNat_natCast]
    clear hT
    have hT := tw_new w 0
    have hlen := rdN_len m s q []
    have herr := rdN_err m s q []
    obtain ⟨R, hR⟩ : ∃ R, rdN m s q [] = R := ⟨_, rfl⟩
    rw [hR] at hlen herr ⊢
    simp only [List.length_nil, Nat.zero_add] at hlen
    have HS := hidM (show TkP w s m R 0 q [] (.slice none 0 0) _ from ⟨hR, rfl, hq, OwnL.nil _ _, hT⟩)
    have HT := hidM (fun n W => rtake_any (cFrom s n) W (by rw [cFrom_size]; unfold maxLen; omega))
    have HM := hidM hm
    have HE := hidM herr
    have hd1 : decide ((m : Int) < 0) = false := by simp
    have hd2 : decide (bd < m) = false := by simp; omega
    obtain ⟨res, hres⟩ : ∃ res : Cl × Int × Int, (if ¬ R.2.2 = 0 then ((0, []), 0, R.2.2) else if mayC 6 bd (0, R.1) = true then ((0, R.1), R.2.1, 0) else ((0, []), 0, 7)) = res := ⟨_, rfl⟩
    rw [hres]
    have HRES := hidM hres
    clear hR hfit hm hT herr hres
    go_enter Tryz.func116, Tryz.ntmps116
    go_wp2_with (go_at_call 83; refine (H2.out _).mono ?_; rintro e w' ⟨rfl, hw⟩; obtain rfl := hw.symm)
    go_loopw [10, 13] (fun n j wr => ∃ (x k : Nat) (l : List Int) (a : Option Addr) (cap : Nat), k ≤ m ∧ x ≤ s.size ∧ n = .int .i64 (x : Int) ∧ j = .int .i64 (k : Int) ∧ Hid (TkP w s m R k x l (.slice a l.length cap) wr)) (fun _ j _ => m - (intOf j).toNat)
    case atStart => exact ⟨q, 0, [], none, 0, by omega, hq, rfl, rfl, HS⟩
    case round =>
     obtain ⟨x, k, l, a, cap, hk, hx, rfl, rfl, HK⟩ := hrel
     obtain ⟨b0, b1, fb0, fb1⟩ := HK.out.tw.bc.cells
     obtain ⟨r0, r1, fr0, fr1⟩ := HK.out.tw.br.cells
     by_cases hlt : k < m
     ·have HT' := hidM (HT.out x wr)
      have hrd := HK.out.rd
      obtain ⟨i, hi⟩ : ∃ i, m - k = i + 1 := ⟨m - k - 1, by omega⟩
      rw [hi] at hrd
      have hbad := rd_bad hrd
      have hgood := fun q => rd_good (q := q) hrd
      have hf := take_fit (cFrom s x)
      obtain ⟨t, p, e, ht⟩ : ∃ t p e, takeOf (cFrom s x) = (t, p, e) := ⟨_, _, _, rfl⟩
      rw [ht] at HT' hbad hgood hf
      simp only at HT' hbad hgood hf
      have hs' : s.extract x s.size = cFrom s x := rfl
      clear hrd ht
      by_cases he : e = 0
      ·subst he
       obtain ⟨p, rfl, hp, hnum⟩ := hf rfl
       have hgd := hgood p (by simp) rfl
       rw [cFrom_size] at hp
       have HG := hidM hgd
       have HP := hidM hnum
       clear hgood hbad hf hgd hnum
       have hsum : x + p ≤ s.size := by omega
       go_wp2_with (first | (go_at_call 83; refine HT'.out.mono ?_; rintro e w' ⟨rfl, rfl⟩) | (at_builtin; refine wpApp rfl _ _ rfl rfl rfl HK.out.own (by have := HK.out.len; omega) HK.out.tw.sz ?_; intro v' W' ho' hb'; obtain ⟨a2, c2, rfl⟩ := ho'.shape; obtain ⟨kc, ko, kt⟩ := HK.out.app ho' hb'; obtain ⟨z0, z1, z2, z3⟩ := kc.cells))
       go_roundw
       case rel => exact ⟨x + p, k + 1, l ++ [t], _, _, by omega, hsum, by go_num, by go_num, by rw [show m - (k + 1) = i by omega]; exact HG.out, by have := HK.out.len; simp; omega, hsum, by rw [show (l ++ [t]).length = l.length + 1 by simp] at ko ⊢; exact ko, by rw [show (l ++ [t]).length = l.length + 1 by simp] at kt ⊢; exact kt⟩
       case measure => simp [intOf]; omega
      ·have hR := hbad he
       subst hR
       have hres := HRES.out
       simp only [he, not_false_eq_true, if_true] at hres
       subst hres
       clear hbad hgood hf
       have he' : (e != 0) = true := by simpa using he
       obtain ⟨-, q1, -, fq1⟩ := (HK.out.tw.br.set0 0).cells
       go_wp2_with (go_at_call 83; refine HT'.out.mono ?_; rintro e w' ⟨rfl, rfl⟩)
       exact bodyPost_ret (results_cell3 rfl rfl HK.out.tw.br.set.load) rfl (takR_zero HK.out.tw.bel (Nat.le_refl _))
     ·obtain rfl : k = m := by omega
      have hrd := HK.out.rd
      rw [Nat.sub_self, rdN] at hrd
      subst hrd
      have hres := HRES.out
      simp only [not_true_eq_false, if_false] at hres
      have H3 := hidM (rcell_any 6 bd _ (0, l) wr ⟨a, cap, rfl, HK.out.own.ns⟩ (by show l.length ≤ _; have := HK.out.len; omega))
      have HN := hidM (fun W' (hb : Below wr.heap.size wr W') => (⟨HK.out.tw.next hb, OwnL.below HK.out.own hb⟩ : TW w W' 0 (.slice a l.length cap) ∧ OwnL W' (w.heap.size + 2) (.slice a l.length cap) l))
      cases hm : mayC 6 bd (0, l) with
      | false =>
       rw [hm] at H3 hres
       simp only [Bool.false_eq_true, if_false] at hres
       subst hres
       go_wp2_with (go_at_call 72; refine H3.out.mono ?_; rintro e W2 ⟨rfl, hb2⟩; obtain ⟨hT2, ho2⟩ := HN.out _ hb2; obtain ⟨c0, c1, f0, f1⟩ := hT2.br.cells; obtain ⟨-, c1', -, f1'⟩ := (hT2.br.set0 0).cells)
       exact bodyPost_ret (results_cell3 rfl rfl hT2.br.set.load) rfl (takR_zero hT2.bel (Nat.le_refl _))
      | true =>
       rw [hm] at H3 hres
       simp only [if_true] at hres
       subst hres
       go_wp2_with (go_at_call 72; refine H3.out.mono ?_; rintro e W2 ⟨rfl, hb2⟩; obtain ⟨hT2, ho2⟩ := HN.out _ hb2; obtain ⟨c0, c1, f0, f1⟩ := hT2.br.cells; obtain ⟨-, c1', -, f1'⟩ := (hT2.br.set0 0).cells; obtain ⟨d0, d1, -, -⟩ := hT2.bc.cells)
       exact bodyPost_ret (results_cell3 rfl rfl hT2.br.set.load) rfl ⟨⟨_, rfl, _, _, rfl, (own_set ho2 (by omega) _ _).lower (by omega)⟩, below_set hT2.bel (Nat.le_refl _) _ _⟩
 ·have he' : (e != 0) = true := by simpa using he
  simp only [he, ne_eq, not_false_eq_true, if_true]
  go_enter Tryz.func116, Tryz.ntmps116
  go_wp2_with (go_at_call 83; refine (H2.out _).mono ?_; rintro e w' ⟨rfl, rfl⟩)
  exact bodyPost_ret (results_cell3 rfl rfl (BlkC.new w _ _).load) rfl takR_new
theorem rctake_any (agg : Int) (bd : Nat) (s : ByteArray) (w : World) (hs : s.size ≤ 1000000000) (hbd : bd ≤ 32) :
  Calls Tryz.prog 116 #[.int .i64 agg, .int .i64 (bd : Int), .string s] w (TakR w (cTake agg bd s)) := by
 by_cases h6 : agg = 6
 ·subst h6
  exact rctakeS_any bd s w hs hbd
 ·exact rctakeN_any agg bd s w h6 hs
set_option maxRecDepth 100000
def Sm (s : ByteArray) : Prop := s.size ≤ maxLen
theorem rtake_ok (s : ByteArray) (w : World) (hs : Sm s) :
  Calls Tryz.prog 83 #[.string s] w fun e w' => e = .returned (.tuple #[.int .i64 (takeOf s).1, .int .i64 (takeOf s).2.1, .int .i64 (takeOf s).2.2]) ∧ w' = w := rtake_any s w hs
set_option maxHeartbeats 400000 in
theorem rtake3_any (s : ByteArray) (w : World) (hs : s.size ≤ maxLen) :
  Calls Tryz.prog 115 #[.string s] w fun e w' => e = .returned (.tuple #[.agg #[.int .i64 (kTake s).1.1, .string (kTake s).1.2], .int .i64 (kTake s).2.1, .int .i64 (kTake s).2.2]) ∧ Below w.heap.size w w' := by
 have s1 : Sm s := hs
 unfold kTake
 obtain ⟨m, n, e, he⟩ : ∃ m n e, takeOf s = (m, n, e) := ⟨_, _, _, rfl⟩
 have hback := @q10 s m n
 rw [he] at hback ⊢
 simp only
 by_cases h0 : e = 0
 ·subst h0
  obtain ⟨q, rfl, hq, hq10, hm1, hm2⟩ := hback rfl
  clear hback
  simp only [ne_eq, not_true_eq_false, if_false]
  have s2 : Sm (s.extract q s.size) := by unfold Sm; rw [ByteArray.size_extract]; omega
  have hz : (s.extract q s.size).size = s.size - q := by rw [ByteArray.size_extract]; omega
  simp only [from', Int.toNat_natCast, textOf]
  obtain ⟨m2, n2, e2, he2⟩ : ∃ m n e, takeOf (s.extract q s.size) = (m, n, e) := ⟨_, _, _, rfl⟩
  have hback2 := @q10 (s.extract q s.size) m2 n2
  rw [he2] at hback2
  simp only [he2]
  by_cases h1 : e2 = 0
  ·subst h1
   obtain ⟨q2, rfl, hq2, hq102, hm12, hm22⟩ := hback2 rfl
   clear hback2
   simp only [ne_eq, not_true_eq_false, if_false]
   by_cases hneg : m2 < 0
   ·simp only [hneg, true_or, if_true]
    go_enter Tryz.func115, Tryz.ntmps115
    go_wp2_with (go_at_call 83; refine (rtake_ok _ _ (by assumption)).mono ?_; rintro e w' ⟨rfl, rfl⟩)
    exact bodyPost_ret (results_cell3 rfl rfl (loadK (boxed w _ _ _).2.2.1 (boxed w _ _ _).2.2.2)) rfl ⟨rfl, (boxed w _ _ _).1⟩
   ·by_cases hbig : 64 < m2
    ·simp only [hbig, or_true, if_true]
     go_enter Tryz.func115, Tryz.ntmps115
     go_wp2_with (go_at_call 83; refine (rtake_ok _ _ (by assumption)).mono ?_; rintro e w' ⟨rfl, rfl⟩)
     exact bodyPost_ret (results_cell3 rfl rfl (loadK (boxed w _ _ _).2.2.1 (boxed w _ _ _).2.2.2)) rfl ⟨rfl, (boxed w _ _ _).1⟩
    ·simp only [hneg, hbig, or_false, if_false]
     obtain ⟨p, rfl⟩ : ∃ p : Nat, m2 = (p : Int) := ⟨m2.toNat, by omega⟩
     unfold maxLen at hs
     by_cases hcut : s.size - q < q2 + p
     ·have hd : ((s.extract q s.size).size : Int) < (q2 : Int) + (p : Int) := by rw [hz]; omega
      simp only [hd, if_true]
      go_enter Tryz.func115, Tryz.ntmps115
      go_wp2_with (go_at_call 83; refine (rtake_ok _ _ (by assumption)).mono ?_; rintro e w' ⟨rfl, rfl⟩)
      exact bodyPost_ret (results_cell3 rfl rfl (loadK (boxed w _ _ _).2.2.1 (boxed w _ _ _).2.2.2)) rfl ⟨rfl, (boxed w _ _ _).1⟩
     ·have hd : ¬ ((s.extract q s.size).size : Int) < (q2 : Int) + (p : Int) := by rw [hz]; omega
      have hxx : (s.extract q s.size).extract q2 (q2 + p) = s.extract (q + q2) (q + q2 + p) := by
       apply ba_ext
       show L _ = L _
       simp only [L_ext, List.drop_take, List.take_take, List.drop_drop]
       congr 1
       ·omega
      simp only [hd, if_false]
      have e5 : ((q2 : Int) + (p : Int)).toNat = q2 + p := by omega
      rw [e5, Int.toNat_natCast, hxx, ← Int.add_assoc]
      go_enter Tryz.func115, Tryz.ntmps115
      go_wp2_with (go_at_call 83; refine (rtake_ok _ _ (by assumption)).mono ?_; rintro e w' ⟨rfl, rfl⟩)
      exact bodyPost_ret (results_cell3 rfl rfl (loadK (boxed w _ _ _).2.2.1 (boxed w _ _ _).2.2.2)) rfl ⟨rfl, (boxed w _ _ _).1⟩
  ·simp only [ne_eq, h1, not_false_eq_true, if_true]
   go_enter Tryz.func115, Tryz.ntmps115
   go_wp2_with (go_at_call 83; refine (rtake_ok _ _ (by assumption)).mono ?_; rintro e w' ⟨rfl, rfl⟩)
   exact bodyPost_ret (results_cell3 rfl rfl (loadK (boxed w _ _ _).2.2.1 (boxed w _ _ _).2.2.2)) rfl ⟨rfl, (boxed w _ _ _).1⟩
 ·simp only [ne_eq, h0, not_false_eq_true, if_true]
  go_enter Tryz.func115, Tryz.ntmps115
  go_wp2_with (go_at_call 83; refine (rtake_ok _ _ (by assumption)).mono ?_; rintro e w' ⟨rfl, rfl⟩)
  exact bodyPost_ret (results_cell3 rfl rfl (loadK (boxed w _ _ _).2.2.1 (boxed w _ _ _).2.2.2)) rfl ⟨rfl, (boxed w _ _ _).1⟩
theorem app_row2 {w w0 W3 : World} {u : Value} {acc : List Rw} {ya : Int} {yb : ByteArray} {yn : Int} {yl : List Int} (s1 : Sl) (ho : OwnW w0 w.heap.size u acc) (hbel : Below w.heap.size w w0) (hl : acc.length ≤ 100000)
  (g3 : Below w0.heap.size w0 W3) (ho3 : OwnL W3 w0.heap.size (slV s1) yl) :
  ∃ v4 W4, (Builtin.append_ #[61, 61] 61 #[u, .slice (some ⟨W3.heap.size, 0, none⟩) 1 1]).run Tryz.prog (W3.alloc (.cells #[.int .i64 ya, .string yb, .int .i64 yn, slV s1] 129)) = .ok v4 W4 ∧ OwnW W4 w.heap.size v4 (acc ++ [((ya, yb), (yn, yl))]) ∧ Below w.heap.size w W4 := by
 have hst : ∀ (W : World) (o : Obj), Below W.heap.size W (W.alloc o) := fun W o => (Below.refl _ _).alloc (Nat.le_refl _) _
 have hsz := hbel.size
 obtain ⟨xs, hx, ha⟩ := ho
 have hxl : xs.length = acc.length := ha.1
 have g4 := nxt g3 (hst W3 (.cells #[.int .i64 ya, .string yb, .int .i64 yn, slV s1] 129))
 have X3 := hx.below g4
 have O3 : OwnL (W3.alloc (.cells #[.int .i64 ya, .string yb, .int .i64 yn, slV s1] 129)) w0.heap.size (slV s1) yl := ho3.below (hst _ _)
 obtain ⟨v4, W4, u1, X4, u3, -⟩ := append_xs 61 X3 (XS.new W3 ((ya, yb), yn, s1)) (by simp; omega) (by have := g4.size; omega)
 have hk3 := keep_row X3 u3
 refine ⟨v4, W4, u1, ⟨_, X4, ?_⟩, (hbel.trans (g4.mono hsz)).grown u3 (by have := g4.size; omega) (own_row X3)⟩
 exact ((ha.keep (.below g4)).keep hk3).snoc ⟨rfl, rfl, (O3.keep hk3).lower hsz⟩
theorem mayFol_last {acc : List Rw} {k : Ky} {r : Rw} (h : acc.length < 1536) (hr : acc.getLast? = some r) : mayFol acc k = ltK r.1 k := by unfold mayFol; rw [decide_eq_true h, hr]; rfl
theorem mayFol_full {acc : List Rw} {k : Ky} (h : ¬ acc.length < 1536) : mayFol acc k = false := by unfold mayFol; rw [decide_eq_false h]; rfl
set_option maxHeartbeats 3200000 in
theorem rtakeRows_any (agg : Int) (bd : Nat) (S : ByteArray) (w : World) (hS : S.size ≤ 900000) (hbd : bd ≤ 32) :
  Calls Tryz.prog 69 #[.int .i64 agg, .int .i64 (bd : Int), .string S] w (RowsR w w.heap.size (rowsTk agg bd S)) := by
 obtain ⟨⟨R1, R2⟩, hRR⟩ : ∃ RR, RR = rowsTk agg bd S := ⟨_, rfl⟩
 rw [← hRR]
 have HRR := hidM hRR
 clear hRR
 go_enter Tryz.func69, Tryz.ntmps69
 go_wp2
 go_loopw [2, 8] (fun s vo wr => ∃ (t : ByteArray) (acc : List Rw), s = .string t ∧ Hid (RdTo agg bd S acc t) ∧ OwnW wr w.heap.size vo acc ∧ Below w.heap.size w wr) (fun s _ _ => strN s)
 case atStart => exact ⟨S, [], rfl, RdTo.start _ _ _, OwnW.nil _ _, Below.refl _ _⟩
 case round =>
  rename World => w0
  obtain ⟨t, acc, rfl, HO, ho, hbel⟩ := hrel
  have hsz := hbel.size
  have hts : t.size ≤ 900000 := by have := HO.out.size; omega
  have hal := HO.out.len
  have HBEL := hidM hbel
  have HOW := hidM ho
  by_cases h0 : t.size = 0
  ·have HF := hidM (Prod.mk.inj (HRR.out.trans (HO.out.fin h0)))
   have hd0 : decide ((0 : Int) < (t.size : Int)) = false := decide_eq_false (by omega)
   have hd0' : decide (0 < t.size) = false := decide_eq_false (by omega)
   have hd0n : ¬ 0 < t.size := by omega
   clear h0 HO
   go_wp2
   go_ret2
   exact ⟨⟨_, by rw [HF.out.2]; rfl, by rw [HF.out.1]; exact ho⟩, HBEL.out⟩
  ·have hd1 : decide ((0 : Int) < (t.size : Int)) = true := decide_eq_true (by omega)
   have hd1' : decide (0 < t.size) = true := decide_eq_true (by omega)
   have hd1n : 0 < t.size := by omega
   have H1 := hidM (fun W => rtake3_any t W (by unfold maxLen; omega))
   have F1 := fun he => HO.out.bad h0 he
   have F2 := fun he hm => HO.out.may h0 he hm
   have F3 := fun he hm => HO.out.step h0 he hm
   by_cases h1 : (kTake t).2.2 = 0
   ·obtain ⟨q, e1, q1, q2, -⟩ := kgood h1
    have HEX := hidM (show t.extract q t.size = from' t (kTake t).2.1 by rw [e1]; rfl)
    have hqi : (q : Int) ≤ (t.size : Int) := by omega
    have H2 := hidM (fun W => rctake_any agg bd (from' t (kTake t).2.1) W (by rw [e1]; unfold from'; rw [ByteArray.size_extract]; omega) hbd)
    by_cases h2 : (cTake agg bd (from' t (kTake t).2.1)).2.2 = 0
    ·have hR := rowTk_ok (agg := agg) (bd := bd) h1 h2
     have F2 := F2 (by rw [hR])
     have F3 := F3 (by rw [hR])
     obtain ⟨m', e2, m1, m2⟩ := cgood h2
     have hqm : q + m' ≤ t.size := by
      rw [e1] at m2
      unfold from' at m2
      rw [ByteArray.size_extract] at m2
      omega
     obtain ⟨⟨ya, yb⟩, hk⟩ : ∃ k, kTake t = (k, (q : Int), 0) := ⟨(kTake t).1, by rw [← e1, ← h1]⟩
     obtain ⟨⟨yn, yl⟩, hct⟩ : ∃ c, cTake agg bd (from' t (kTake t).2.1) = (c, (m' : Int), 0) := ⟨(cTake agg bd (from' t (kTake t).2.1)).1, by rw [← e2, ← h2]⟩
     rw [hR, hct, hk] at F3
     rw [hR, hk] at F2
     rw [hct, hk] at H2
     rw [hk] at H1 HEX
     clear e2 m2 h2 h1 e1 hR hct hk
     simp only at H1 H2 F2 F3
     have hji : ((q + m' : Nat) : Int) ≤ (t.size : Int) := by omega
     have HFR := hidM (show t.extract (q + m') t.size = from' t ((q : Int) + (m' : Int)) by unfold from'; rfl)
     have hst : ∀ (W : World) (o : Obj), Below W.heap.size W (W.alloc o) := fun W o => (Below.refl _ _).alloc (Nat.le_refl _) _
     have HFA := hidM (show ∀ (W1 W2 : World) (a2 : Option Addr) (p2 : Nat), Below w0.heap.size w0 W1 → Below (W1.alloc (.cells #[.int .i64 ya, .string yb] 124)).heap.size (W1.alloc (.cells #[.int .i64 ya, .string yb] 124)) W2 → OwnL W2 (W1.alloc (.cells #[.int .i64 ya, .string yb] 124)).heap.size (.slice a2 yl.length p2) yl →
       Below w0.heap.size w0 (W2.alloc (.cells #[.int .i64 yn, .slice a2 yl.length p2] 127)) ∧ (∀ W, Below (W2.alloc (.cells #[.int .i64 yn, .slice a2 yl.length p2] 127)).heap.size (W2.alloc (.cells #[.int .i64 yn, .slice a2 yl.length p2] 127)) W → W.cell? ⟨W1.heap.size, 0, none⟩ = some (.int .i64 ya) ∧ W.cell? ⟨W1.heap.size, 1, none⟩ = some (.string yb) ∧ W.cell? ⟨W2.heap.size, 0, none⟩ = some (.int .i64 yn) ∧ W.cell? ⟨W2.heap.size, 1, none⟩ = some (.slice a2 yl.length p2)) ∧ (∀ W, Below (W2.alloc (.cells #[.int .i64 yn, .slice a2 yl.length p2] 127)).heap.size (W2.alloc (.cells #[.int .i64 yn, .slice a2 yl.length p2] 127)) W → OwnL W w0.heap.size (slV (a2, yl.length, p2)) yl) from fun W1 W2 a2 p2 g1 g2 g3 => by
      have k1 := heap_alloc_new W1 (.cells #[.int .i64 ya, .string yb] 124)
      have k2 := heap_alloc_new W2 (.cells #[.int .i64 yn, .slice a2 yl.length p2] 127)
      have s1 := hst W1 (.cells #[.int .i64 ya, .string yb] 124)
      have s2 := hst W2 (.cells #[.int .i64 yn, .slice a2 yl.length p2] 127)
      have k1' := ((nxt g2 s2).block W1.heap.size (by simp)).trans k1
      refine ⟨nxt g1 (nxt s1 (nxt g2 s2)), fun W hW => ?_, fun W hW => ?_⟩
      ·obtain ⟨u0, u1⟩ := blk2 ((hW.block W1.heap.size (Array.getElem?_eq_some_iff.1 k1').1).trans k1')
       obtain ⟨u2, u3⟩ := blk2 ((hW.block W2.heap.size (Array.getElem?_eq_some_iff.1 k2).1).trans k2)
       exact ⟨u0, u1, u2, u3⟩
      ·exact ((g3.below (nxt s2 hW)).lower (nxt g1 s1).size))
     have HST := hidM hst
     obtain ⟨au, cu, rfl, hsh⟩ := OwnW.ws ho
     by_cases hfull : acc.length < 1536
     ·have hfi : decide ((acc.length : Int) = 1536) = false := decide_eq_false (by omega)
      have hfb : ((acc.length : Int) == 1536) = false := beq_eq_false_iff_ne.2 (by omega)
      by_cases hnil : acc.length = 0
      ·have hac : acc = [] := List.length_eq_zero_iff.1 hnil
       have hm : mayFol acc (ya, yb) = true := by rw [hac]; rfl
       have hn0 : decide ((0 : Int) < (acc.length : Int)) = false := decide_eq_false (by omega)
       have hn0' : decide (0 < acc.length) = false := decide_eq_false (by omega)
       have hn0n : ¬ 0 < acc.length := by omega
       obtain ⟨G1, G2⟩ := F3 hm
       have HG1 := hidM G1
       have HG2 := hidM G2
       clear hac hnil hsh hfull
       clear F1 F2 F3 hm h0 hbel HO hst ho G1 G2
       go_wp2_with (first
        | (go_at_call 115; refine (H1.out _).mono ?_; rintro e W1 ⟨rfl, hb1⟩)
        | (go_at_call 116; (try rw [HEX.out]); refine (H2.out _).mono ?_; rintro e W2 ⟨⟨v2, rfl, a2, p2, rfl, ho2⟩, hb2⟩; obtain ⟨hbW, hcell, hown2⟩ := HFA.out W1 W2 a2 p2 hb1 hb2 ho2))
       obtain ⟨x0, x1, x2, x3⟩ := hcell _ (Below.refl _ _)
       go_quiet (fail)
       obtain ⟨V, hV⟩ : ∃ V : World, V = (W2.alloc (.cells #[.int .i64 yn, .slice a2 yl.length p2] 127)).drewN nq := ⟨_, rfl⟩
       have hbV : Below (W2.alloc (.cells #[.int .i64 yn, .slice a2 yl.length p2] 127)).heap.size (W2.alloc (.cells #[.int .i64 yn, .slice a2 yl.length p2] 127)) V := by rw [hV]; exact Drawn.below ⟨nq, rfl⟩ _
       have HVW := hidM hV.symm
       clear hV
       rw [HVW.out]
       have hbZ := nxt hbW hbV
       obtain ⟨y0, y1, y2, y3⟩ := hcell _ hbV
       obtain ⟨v4, W4, u1, hown4, hbel4⟩ := app_row2 (ya := ya) (yb := yb) (yn := yn) (yl := yl) (a2, yl.length, p2) HOW.out HBEL.out (by omega) hbZ (hown2 _ hbV)
       have U1 := hidM u1
       clear u1
       go_wp2_with (first
        | (at_builtin; refine wpList_append_run _ rfl _ _ _ rfl _ _ v4 W4 rfl rfl U1.out ?_))
       refine ⟨⟨_, _, by rw [HFR.out], HG1.out, hown4, hbel4⟩, ?_⟩
       exact HG2.out
      ·obtain ⟨⟨⟨xa, xb⟩, xn, xl⟩, hr, hla⟩ := last_at (l := acc) (by omega)
       have hml := mayFol_last (k := (ya, yb)) hfull hla
       have hneg := cfK_lt0 (xa, xb) (ya, yb)
       rcases hsh with hac | ⟨b, off, rfl, hb, hat⟩
       ·rw [hac] at hnil; simp at hnil
       obtain ⟨m, hm1⟩ : ∃ m, acc.length = m + 1 := ⟨acc.length - 1, by omega⟩
       rw [show acc.length - 1 = m by omega] at hr
       have HLAST := hidM (show ∀ W, Below w0.heap.size w0 W → W.cell? ⟨b, off + m * 4, none⟩ = some (.int .i64 xa) ∧ W.cell? ⟨b, off + m * 4 + 1, none⟩ = some (.string xb) from fun W hW => by
        obtain ⟨c0, c1, -⟩ := hat m _ hr
        exact ⟨(hW.cell (p := ⟨b, _, none⟩) hb).trans c0, (hW.cell (p := ⟨b, _, none⟩) hb).trans c1⟩)
       have HCM := hidM (fun W => rcmp_any (xa, xb) (ya, yb) W)
       have hwr : IntKind.i64.wrap ((acc.length : Int) - 1) = (m : Int) := by rw [IntKind.wrap_i64]; omega
       have hm0 : (0 : Int) ≤ (m : Int) := by omega
       have hmi : (m : Int) < (acc.length : Int) := by omega
       have hn1 : decide ((0 : Int) < (acc.length : Int)) = true := decide_eq_true (by omega)
       have hn1' : decide (0 < acc.length) = true := decide_eq_true (by omega)
       have hn1n : 0 < acc.length := by omega
       rw [← hml] at hneg
       obtain ⟨cf, hcf⟩ : ∃ cf : Int, cf = cfK (xa, xb) (ya, yb) := ⟨_, rfl⟩
       rw [← hcf] at HCM hneg
       clear hcf hml hla hr hat hm1 hnil hfull
       cases hm : mayFol acc (ya, yb) with
       | true =>
        rw [hm] at hneg
        have hcf0 : decide (0 ≤ cf) = false := decide_eq_false (by have := of_decide_eq_true hneg; omega)
        obtain ⟨G1, G2⟩ := F3 hm
        have HG1 := hidM G1
        have HG2 := hidM G2
        clear hneg
        clear F1 F2 F3 hm h0 hbel HO hst ho G1 G2
        go_wp2_with (first
         | (go_at_call 115; refine (H1.out _).mono ?_; rintro e W1 ⟨rfl, hb1⟩)
         | (go_at_call 116; (try rw [HEX.out]); refine (H2.out _).mono ?_; rintro e W2 ⟨⟨v2, rfl, a2, p2, rfl, ho2⟩, hb2⟩; obtain ⟨hbW, hcell, hown2⟩ := HFA.out W1 W2 a2 p2 hb1 hb2 ho2))
        obtain ⟨x0, x1, x2, x3⟩ := hcell _ (Below.refl _ _)
        have HSS := hidM (show ∀ W, Below (W2.alloc (.cells #[.int .i64 yn, .slice a2 yl.length p2] 127)).heap.size (W2.alloc (.cells #[.int .i64 yn, .slice a2 yl.length p2] 127)) W → (W.cell? ⟨b, off + m * 4, none⟩ = some (.int .i64 xa) ∧ W.cell? ⟨b, off + m * 4 + 1, none⟩ = some (.string xb) ∧ W.cell? ⟨W1.heap.size, 0, none⟩ = some (.int .i64 ya) ∧ W.cell? ⟨W1.heap.size, 1, none⟩ = some (.string yb)) ∧ Below (W2.alloc (.cells #[.int .i64 yn, .slice a2 yl.length p2] 127)).heap.size (W2.alloc (.cells #[.int .i64 yn, .slice a2 yl.length p2] 127)) W from fun W hW => by
         obtain ⟨z0, z1, -, -⟩ := hcell W hW
         obtain ⟨q0, q1⟩ := HLAST.out W (nxt hbW hW)
         exact ⟨⟨q0, q1, z0, z1⟩, hW⟩)
        have HKEEP := hidM (fun (W W' : World) (hn : (W.cell? ⟨b, off + m * 4, none⟩ = some (.int .i64 xa) ∧ W.cell? ⟨b, off + m * 4 + 1, none⟩ = some (.string xb) ∧ W.cell? ⟨W1.heap.size, 0, none⟩ = some (.int .i64 ya) ∧ W.cell? ⟨W1.heap.size, 1, none⟩ = some (.string yb)) ∧ Below (W2.alloc (.cells #[.int .i64 yn, .slice a2 yl.length p2] 127)).heap.size (W2.alloc (.cells #[.int .i64 yn, .slice a2 yl.length p2] 127)) W) (hb : Below W.heap.size W W') => HSS.out W' (nxt hn.2 hb))
        go_region_held3 (fun W => (W.cell? ⟨b, off + m * 4, none⟩ = some (.int .i64 xa) ∧ W.cell? ⟨b, off + m * 4 + 1, none⟩ = some (.string xb) ∧ W.cell? ⟨W1.heap.size, 0, none⟩ = some (.int .i64 ya) ∧ W.cell? ⟨W1.heap.size, 1, none⟩ = some (.string yb)) ∧ Below (W2.alloc (.cells #[.int .i64 yn, .slice a2 yl.length p2] 127)).heap.size (W2.alloc (.cells #[.int .i64 yn, .slice a2 yl.length p2] 127)) W)
         (first | exact HKEEP.out _ _ (by assumption) (by assumption) | exact HSS.out _ (Below.refl _ _).drew)
         (first | (go_at_call 117; refine (HCM.out _).mono ?_; rintro e W9 ⟨rfl, hb9⟩))
        obtain ⟨-, hbV⟩ := ‹(_ ∧ _ ∧ _ ∧ _) ∧ Below (W2.alloc (.cells #[.int .i64 yn, .slice a2 yl.length p2] 127)).heap.size (W2.alloc (.cells #[.int .i64 yn, .slice a2 yl.length p2] 127)) _›
        have hbZ := nxt hbW hbV
        obtain ⟨y0, y1, y2, y3⟩ := hcell _ hbV
        obtain ⟨v4, W4, u1, hown4, hbel4⟩ := app_row2 (ya := ya) (yb := yb) (yn := yn) (yl := yl) (a2, yl.length, p2) HOW.out HBEL.out (by omega) hbZ (hown2 _ hbV)
        have U1 := hidM u1
        clear u1
        go_wp2_with (first
         | (at_builtin; refine wpList_append_run _ rfl _ _ _ rfl _ _ v4 W4 rfl rfl U1.out ?_))
        refine ⟨⟨_, _, by rw [HFR.out], HG1.out, hown4, hbel4⟩, ?_⟩
        exact HG2.out
       | false =>
        rw [hm] at hneg
        have hcf0 : decide (0 ≤ cf) = true := decide_eq_true (by have := of_decide_eq_false hneg; omega)
        clear hneg
        have HF := hidM (Prod.mk.inj (HRR.out.trans (F2 hm)))
        clear F1 F2 F3 hm h0 hbel HO hst ho
        go_wp2_with (first
         | (go_at_call 115; refine (H1.out _).mono ?_; rintro e W1 ⟨rfl, hb1⟩)
         | (go_at_call 116; (try rw [HEX.out]); refine (H2.out _).mono ?_; rintro e W2 ⟨⟨v2, rfl, a2, p2, rfl, ho2⟩, hb2⟩; obtain ⟨hbW, hcell, hown2⟩ := HFA.out W1 W2 a2 p2 hb1 hb2 ho2))
        obtain ⟨x0, x1, x2, x3⟩ := hcell _ (Below.refl _ _)
        have HSS := hidM (show ∀ W, Below (W2.alloc (.cells #[.int .i64 yn, .slice a2 yl.length p2] 127)).heap.size (W2.alloc (.cells #[.int .i64 yn, .slice a2 yl.length p2] 127)) W → (W.cell? ⟨b, off + m * 4, none⟩ = some (.int .i64 xa) ∧ W.cell? ⟨b, off + m * 4 + 1, none⟩ = some (.string xb) ∧ W.cell? ⟨W1.heap.size, 0, none⟩ = some (.int .i64 ya) ∧ W.cell? ⟨W1.heap.size, 1, none⟩ = some (.string yb)) ∧ Below (W2.alloc (.cells #[.int .i64 yn, .slice a2 yl.length p2] 127)).heap.size (W2.alloc (.cells #[.int .i64 yn, .slice a2 yl.length p2] 127)) W from fun W hW => by
         obtain ⟨z0, z1, -, -⟩ := hcell W hW
         obtain ⟨q0, q1⟩ := HLAST.out W (nxt hbW hW)
         exact ⟨⟨q0, q1, z0, z1⟩, hW⟩)
        have HKEEP := hidM (fun (W W' : World) (hn : (W.cell? ⟨b, off + m * 4, none⟩ = some (.int .i64 xa) ∧ W.cell? ⟨b, off + m * 4 + 1, none⟩ = some (.string xb) ∧ W.cell? ⟨W1.heap.size, 0, none⟩ = some (.int .i64 ya) ∧ W.cell? ⟨W1.heap.size, 1, none⟩ = some (.string yb)) ∧ Below (W2.alloc (.cells #[.int .i64 yn, .slice a2 yl.length p2] 127)).heap.size (W2.alloc (.cells #[.int .i64 yn, .slice a2 yl.length p2] 127)) W) (hb : Below W.heap.size W W') => HSS.out W' (nxt hn.2 hb))
        go_region_held3 (fun W => (W.cell? ⟨b, off + m * 4, none⟩ = some (.int .i64 xa) ∧ W.cell? ⟨b, off + m * 4 + 1, none⟩ = some (.string xb) ∧ W.cell? ⟨W1.heap.size, 0, none⟩ = some (.int .i64 ya) ∧ W.cell? ⟨W1.heap.size, 1, none⟩ = some (.string yb)) ∧ Below (W2.alloc (.cells #[.int .i64 yn, .slice a2 yl.length p2] 127)).heap.size (W2.alloc (.cells #[.int .i64 yn, .slice a2 yl.length p2] 127)) W)
         (first | exact HKEEP.out _ _ (by assumption) (by assumption) | exact HSS.out _ (Below.refl _ _).drew)
         (first | (go_at_call 117; refine (HCM.out _).mono ?_; rintro e W9 ⟨rfl, hb9⟩))
        obtain ⟨-, hbV⟩ := ‹(_ ∧ _ ∧ _ ∧ _) ∧ Below (W2.alloc (.cells #[.int .i64 yn, .slice a2 yl.length p2] 127)).heap.size (W2.alloc (.cells #[.int .i64 yn, .slice a2 yl.length p2] 127)) _›
        have hbZ := nxt hbW hbV
        go_wp2
        go_ret2
        exact ⟨⟨_, by rw [HF.out.2]; rfl, by rw [HF.out.1]; exact OwnW.nil _ _⟩, nxt HBEL.out hbZ⟩
     ·have hm : mayFol acc (ya, yb) = false := mayFol_full hfull
      have hfi : decide ((acc.length : Int) = 1536) = true := decide_eq_true (by omega)
      have hfb : ((acc.length : Int) == 1536) = true := by simp; omega
      clear hfull hsh
      have HF := hidM (Prod.mk.inj (HRR.out.trans (F2 hm)))
      clear F1 F2 F3 hm h0 hbel HO hst ho
      go_wp2_with (first
       | (go_at_call 115; refine (H1.out _).mono ?_; rintro e W1 ⟨rfl, hb1⟩)
       | (go_at_call 116; (try rw [HEX.out]); refine (H2.out _).mono ?_; rintro e W2 ⟨⟨v2, rfl, a2, p2, rfl, ho2⟩, hb2⟩; obtain ⟨hbW, hcell, hown2⟩ := HFA.out W1 W2 a2 p2 hb1 hb2 ho2))
      obtain ⟨x0, x1, x2, x3⟩ := hcell _ (Below.refl _ _)
      go_quiet (fail)
      obtain ⟨V, hV⟩ : ∃ V : World, V = (W2.alloc (.cells #[.int .i64 yn, .slice a2 yl.length p2] 127)).drewN nq := ⟨_, rfl⟩
      have hbV : Below (W2.alloc (.cells #[.int .i64 yn, .slice a2 yl.length p2] 127)).heap.size (W2.alloc (.cells #[.int .i64 yn, .slice a2 yl.length p2] 127)) V := by rw [hV]; exact Drawn.below ⟨nq, rfl⟩ _
      have HVW := hidM hV.symm
      clear hV
      rw [HVW.out]
      have hbZ := nxt hbW hbV
      go_wp2
      go_ret2
      exact ⟨⟨_, by rw [HF.out.2]; rfl, by rw [HF.out.1]; exact OwnW.nil _ _⟩, nxt HBEL.out hbZ⟩
    ·have hR := rowTk_cell (agg := agg) (bd := bd) h1 h2
     rw [hR] at F1
     have HF := hidM (Prod.mk.inj (HRR.out.trans (F1 h2)))
     have hbe : ((cTake agg bd (from' t (kTake t).2.1)).2.2 != 0) = true := by simpa using h2
     obtain ⟨ct, hct⟩ : ∃ ct, ct = cTake agg bd (from' t (kTake t).2.1) := ⟨_, rfl⟩
     rw [← hct] at HF H2 hbe
     obtain ⟨cc, nn, er⟩ := ct
     simp only at HF H2 hbe
     rw [e1] at H1 H2 HEX
     rw [h1] at H1
     obtain ⟨yn, yl⟩ := cc
     clear hct hR h2 h1 e1 F1 F2 F3 HO h0 hbel ho
     go_wp2_with (first
      | (go_at_call 115; refine (H1.out _).mono ?_; rintro e W1 ⟨rfl, hb1⟩)
      | (go_at_call 116; (try rw [HEX.out]); refine (H2.out _).mono ?_; rintro e W2 ⟨⟨v2, rfl, a2, p2, rfl, ho2⟩, hb2⟩))
     go_ret2
     exact ⟨⟨_, by rw [HF.out.2]; rfl, by rw [HF.out.1]; exact OwnW.nil _ _⟩, nxt HBEL.out (nxt hb1 (nxt ((Below.refl _ _).alloc (Nat.le_refl _) _) (nxt hb2 ((Below.refl _ _).alloc (Nat.le_refl _) _))))⟩
   ·have hR := rowTk_key (agg := agg) (bd := bd) h1
    rw [hR] at F1
    have HF := hidM (Prod.mk.inj (HRR.out.trans (F1 h1)))
    have hbe : ((kTake t).2.2 != 0) = true := by simpa using h1
    obtain ⟨k0, hk0⟩ : ∃ k, k = kTake t := ⟨_, rfl⟩
    rw [← hk0] at H1 HF hbe
    clear hR h1 F1 F2 F3 HO h0 hbel ho hk0
    go_wp2_with (first
     | (go_at_call 115; refine (H1.out _).mono ?_; rintro e W1 ⟨rfl, hb1⟩))
    go_ret2
    exact ⟨⟨_, by rw [HF.out.2]; rfl, by rw [HF.out.1]; exact OwnW.nil _ _⟩, nxt HBEL.out (nxt hb1 ((Below.refl _ _).alloc (Nat.le_refl _) _))⟩
end Go.Proofs.YtclcgakfmcofaaaGreatDoor
