/- PLAIN FACTS on frames behind each other, cut off anywhere, and on a frame with one bit turned. -/
import Derived.Test.YtllcpdpjfcjopaaDoorFPlain
import Derived.Test.YtllcpdpjfcjopaaDoorOwnB
namespace Go.Proofs.YtllcpdpjfcjopaaDoor
set_option linter.unusedVariables false

/-! ### Frames behind each other -/
def fcat : List ByteArray → ByteArray
  | [] => ⟨#[]⟩
  | x :: l => frameOf x ++ fcat l
theorem fcat_snoc : ∀ (l : List ByteArray) (x : ByteArray), fcat (l ++ [x]) = fcat l ++ frameOf x
  | [], x => by simp only [List.nil_append, fcat]; rw [nil_app, app_nil]
  | a :: l, x => by simp only [List.cons_append, fcat]; rw [fcat_snoc l x, app_assoc]
theorem fcat_cons (x : ByteArray) (l : List ByteArray) : (fcat (x :: l)).size = 8 + x.size + (fcat l).size := by
  simp only [fcat]; rw [ByteArray.size_append, frame_size]
theorem fcat_nil : (fcat []).size = 0 := rfl
theorem ext_ext (s : ByteArray) (a q : Nat) : (s.extract a s.size).extract q (s.extract a s.size).size = s.extract (a + q) s.size := by
  apply ba_ext; show L _ = L _
  rw [L_ext, L_ext, L_ext, ByteArray.size_extract]
  rw [List.take_of_length_le (l := (L s).drop a) (by rw [List.length_drop, L_len]; omega), List.drop_drop, List.take_of_length_le (by rw [List.length_drop, L_len]; omega), List.take_of_length_le (by rw [List.length_drop, L_len]; omega)]
theorem scanG_cut : ∀ (M : List ByteArray) (f : Nat) (acc : List ByteArray) (a : Nat) (s : ByteArray) (j k : Nat), (∀ x ∈ M, x.size ≤ 32768) → s.extract a s.size = (fcat M).extract 0 j → j ≤ (fcat M).size → k ≤ M.length → (fcat (M.take k)).size ≤ j →
    (k = M.length ∨ j < (fcat (M.take (k + 1))).size) → j < f → scanG f acc a s = (acc ++ M.take k, a + (fcat (M.take k)).size)
  | M, 0, acc, a, s, j, k, _, _, _, _, _, _, hf => by omega
  | [], f + 1, acc, a, s, j, k, hM, hs, hj, hk, hkj, hor, hf => by
    obtain rfl : k = 0 := by simpa using hk
    have hsz : (s.extract a s.size).size < 8 := by rw [hs, ByteArray.size_extract, fcat_nil]; omega
    rw [scanG_end f acc a s _ _ 6 (fTake_short hsz) (by decide)]
    simp [fcat_nil]
  | x :: M, f + 1, acc, a, s, j, 0, hM, hs, hj, hk, hkj, hor, hf => by
    have hj' : j < 8 + x.size := by
      rcases hor with h | h
      · simp at h
      · simp only [Nat.zero_add, List.take_succ_cons, List.take_zero] at h
        rw [fcat_cons, fcat_nil] at h; omega
    have ht := frame_cut x (fcat M) (hM x (List.mem_cons_self ..)) j hj'
    have hs' : s.extract a s.size = (frameOf x ++ fcat M).extract 0 j := hs
    rw [← hs'] at ht
    rw [scanG_end f acc a s _ _ 6 ht (by decide)]
    simp [fcat_nil]
  | x :: M, f + 1, acc, a, s, j, k + 1, hM, hs, hj, hk, hkj, hor, hf => by
    simp only [List.take_succ_cons] at hkj hor ⊢
    rw [fcat_cons] at hkj hor hj
    have hx := hM x (List.mem_cons_self ..)
    have hs' : s.extract a s.size = frameOf x ++ (fcat M).extract 0 (j - (8 + x.size)) := by
      rw [hs]
      show (frameOf x ++ fcat M).extract 0 j = _
      rw [ext_app _ _ _ (by rw [frame_size]; omega), frame_size]
    have ht := frame_back x ((fcat M).extract 0 (j - (8 + x.size))) hx
    rw [← hs'] at ht
    have hnext : s.extract (a + (8 + x.size)) s.size = (fcat M).extract 0 (j - (8 + x.size)) := by
      rw [← ext_ext, hs']
      have := ext_tail (frameOf x) ((fcat M).extract 0 (j - (8 + x.size)))
      rwa [frame_size] at this
    rw [scanG_more f acc a s x (8 + x.size) ht, scanG_cut M f (acc ++ [x]) (a + (8 + x.size)) s (j - (8 + x.size)) k (fun y hy => hM y (List.mem_cons_of_mem _ hy)) hnext (by omega) (by simpa using hk) (by omega) (by
      rcases hor with h | h
      · left; simpa using h
      · right; omega) (by omega), fcat_cons]
    simp only [List.append_assoc, List.singleton_append]
    congr 1
    omega
/-- Of frames that are cut off those that are whole are told. -/
theorem scanOf_cut (M : List ByteArray) (n k : Nat) (hM : ∀ x ∈ M, x.size ≤ 32768) (hn : n ≤ (fcat M).size) (hk : k ≤ M.length) (hkn : (fcat (M.take k)).size ≤ n) (hor : k = M.length ∨ n < (fcat (M.take (k + 1))).size) :
    scanOf ((fcat M).extract 0 n) = (M.take k, (fcat (M.take k)).size) := by
  have hsz : ((fcat M).extract 0 n).size = n := by rw [ByteArray.size_extract]; omega
  have h0 : ((fcat M).extract 0 n).extract 0 ((fcat M).extract 0 n).size = (fcat M).extract 0 n := by
    apply ba_ext; show L _ = L _
    rw [L_ext, List.drop_zero, Nat.sub_zero, List.take_of_length_le (by rw [L_len]; omega)]
  unfold scanOf
  rw [scanG_cut M _ [] 0 _ n k hM h0 hn hk hkn hor (by omega)]
  simp

/-! ### A turned bit -/
theorem four_list (l : List UInt8) (h : l.length = 4) : ∃ a b c d, l = [a, b, c, d] := by
  match l, h with
  | [a, b, c, d], _ => exact ⟨a, b, c, d, rfl⟩
theorem turn_ne (b : UInt8) (m : Nat) (hm : m < 8) : (b ^^^ turn m).toNat ≠ b.toNat := by
  intro e
  have h1 : b ^^^ turn m = b := UInt8.toNat.inj e
  have h2 : turn m = 0 := by
    have := congrArg (fun z => b ^^^ z) h1
    simpa [← UInt8.xor_assoc] using this
  have : ∀ m : Fin 8, turn m.val ≠ 0 := by decide
  exact this ⟨m, hm⟩ h2
theorem fourL_cons (a b c d : UInt8) (r : List UInt8) : fourL (a :: b :: c :: d :: r) = (a.toNat : Int) * 16777216 + (b.toNat : Int) * 65536 + (c.toNat : Int) * 256 + (d.toNat : Int) := rfl
theorem mk_L (l : List UInt8) : L ⟨l.toArray⟩ = l := rfl
theorem turned_frame (s : ByteArray) (h : s.size ≤ 32768) (p m : Nat) (h4 : 4 ≤ p) (hp : p < 8 + s.size) (hm : m < 8) :
    fTake ⟨((L (frameOf s)).set p ((L (frameOf s)).getD p 0 ^^^ turn m)).toArray⟩ = (⟨#[]⟩, 0, 8) := by
  obtain ⟨q, rfl⟩ : ∃ q, p = q + 4 := ⟨p - 4, by omega⟩
  have hl := fSum_lt (four (s.size : Int) ++ s)
  obtain ⟨a0, a1, a2, a3, ha⟩ := four_list (L (four (s.size : Int))) (by rw [L_len, four_size])
  obtain ⟨b0, b1, b2, b3, hb⟩ := four_list (L (four (fSum (four (s.size : Int) ++ s)))) (by rw [L_len, four_size])
  have hA : ∀ r, fourL (a0 :: a1 :: a2 :: a3 :: r) = (s.size : Int) := by
    intro r
    have := four_back (s.size : Int) (by omega) (by omega) ⟨r.toArray⟩
    unfold fourOf at this
    rw [show (four (s.size : Int) ++ ⟨r.toArray⟩).data.toList = L (four (s.size : Int)) ++ r from L_app _ _, ha] at this
    exact this
  have hB : ∀ r, fourL (b0 :: b1 :: b2 :: b3 :: r) = fSum (four (s.size : Int) ++ s) := by
    intro r
    have := four_back (fSum (four (s.size : Int) ++ s)) hl.1 hl.2 ⟨r.toArray⟩
    unfold fourOf at this
    rw [show (four (fSum (four (s.size : Int) ++ s)) ++ ⟨r.toArray⟩).data.toList = L (four (fSum (four (s.size : Int) ++ s))) ++ r from L_app _ _, hb] at this
    exact this
  have hc : fSum (four (s.size : Int) ++ s) = wd (crc (a0 :: a1 :: a2 :: a3 :: L s)) := by
    unfold fSum; rw [L_app, ha]; rfl
  rw [hc] at hB
  have hF : L (frameOf s) = a0 :: a1 :: a2 :: a3 :: b0 :: b1 :: b2 :: b3 :: L s := by
    unfold frameOf; rw [L_app, L_app, ha, hb]; rfl
  have hts := L_len s
  rw [hF]
  generalize L s = t at *
  simp only [List.set_cons_succ, List.getD_cons_succ]
  generalize hr : (b0 :: b1 :: b2 :: b3 :: t).set q ((b0 :: b1 :: b2 :: b3 :: t).getD q 0 ^^^ turn m) = r
  have hrl : r.length = 4 + s.size := by rw [← hr, List.length_set]; simp; omega
  have hsz : (ByteArray.mk (a0 :: a1 :: a2 :: a3 :: r).toArray).size = 8 + s.size := by
    rw [← L_len, mk_L]; simp; omega
  have h0 : L ((ByteArray.mk (a0 :: a1 :: a2 :: a3 :: r).toArray).extract 0 4) = [a0, a1, a2, a3] := by rw [L_ext, mk_L]; rfl
  have h8 : L ((ByteArray.mk (a0 :: a1 :: a2 :: a3 :: r).toArray).extract 8 (8 + s.size)) = r.drop 4 := by
    rw [L_ext, mk_L]
    simp only [List.drop_succ_cons]
    rw [List.take_of_length_le (by simp; omega)]
  have h4' : fourOf ((ByteArray.mk (a0 :: a1 :: a2 :: a3 :: r).toArray).extract 4 (ByteArray.mk (a0 :: a1 :: a2 :: a3 :: r).toArray).size) = fourL r := by
    unfold fourOf
    rw [show ((ByteArray.mk (a0 :: a1 :: a2 :: a3 :: r).toArray).extract 4 (ByteArray.mk (a0 :: a1 :: a2 :: a3 :: r).toArray).size).data.toList = _ from L_ext _ _ _, mk_L]
    simp only [List.drop_succ_cons, List.drop_zero]
    rw [List.take_of_length_le (by omega)]
  refine fTake_sum (n := s.size) (by omega) (hA r) (by omega) (by omega) ?_
  rw [h4']
  have hS : fSum ((ByteArray.mk (a0 :: a1 :: a2 :: a3 :: r).toArray).extract 0 4 ++ (ByteArray.mk (a0 :: a1 :: a2 :: a3 :: r).toArray).extract 8 (8 + s.size)) = wd (crc (a0 :: a1 :: a2 :: a3 :: r.drop 4)) := by
    unfold fSum; rw [L_app, h0, h8]; rfl
  rw [hS]
  have g0 := b0.toNat_lt
  have g1 := b1.toNat_lt
  have g2 := b2.toNat_lt
  have g3 := b3.toNat_lt
  by_cases hq : q < 4
  · have key : r.drop 4 = t ∧ fourL r ≠ wd (crc (a0 :: a1 :: a2 :: a3 :: t)) := by
      have e0 := hB t
      rw [fourL_cons] at e0
      match q, hq with
      | 0, _ =>
        have n0 := turn_ne b0 m hm
        have t0 := (b0 ^^^ turn m).toNat_lt
        subst hr
        refine ⟨rfl, ?_⟩
        show fourL ((b0 ^^^ turn m) :: b1 :: b2 :: b3 :: t) ≠ _
        rw [fourL_cons, ← e0]; omega
      | 1, _ =>
        have n0 := turn_ne b1 m hm
        have t0 := (b1 ^^^ turn m).toNat_lt
        subst hr
        refine ⟨rfl, ?_⟩
        show fourL (b0 :: (b1 ^^^ turn m) :: b2 :: b3 :: t) ≠ _
        rw [fourL_cons, ← e0]; omega
      | 2, _ =>
        have n0 := turn_ne b2 m hm
        have t0 := (b2 ^^^ turn m).toNat_lt
        subst hr
        refine ⟨rfl, ?_⟩
        show fourL (b0 :: b1 :: (b2 ^^^ turn m) :: b3 :: t) ≠ _
        rw [fourL_cons, ← e0]; omega
      | 3, _ =>
        have n0 := turn_ne b3 m hm
        have t0 := (b3 ^^^ turn m).toNat_lt
        subst hr
        refine ⟨rfl, ?_⟩
        show fourL (b0 :: b1 :: b2 :: (b3 ^^^ turn m) :: t) ≠ _
        rw [fourL_cons, ← e0]; omega
    rw [key.1]
    exact fun e => key.2 e.symm
  · obtain ⟨j, rfl⟩ : ∃ j, q = j + 4 := ⟨q - 4, by omega⟩
    simp only [List.set_cons_succ, List.getD_cons_succ] at hr
    subst hr
    rw [hB]
    simp only [List.drop_succ_cons, List.drop_zero]
    have := turned_one (a0 :: a1 :: a2 :: a3 :: t) (j + 4) m (by simp; omega) hm
    simp only [List.set_cons_succ, List.getD_cons_succ] at this
    exact fun e => this (wd_inj e)
end Go.Proofs.YtllcpdpjfcjopaaDoor
