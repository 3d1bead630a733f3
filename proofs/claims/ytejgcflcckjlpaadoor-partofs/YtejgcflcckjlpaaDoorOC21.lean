/- Texts laid together: GTk, GTkF, GBy, GComb. -/
import Derived.Test.YtejgcflcckjlpaaDoorOC16
import Derived.Test.YtejgcflcckjlpaaDoorOC18
import Derived.Test.YtejgcflcckjlpaaDoorOC20
import Derived.Test.YtejgcflcckjlpaaDoorOC19
import Derived.Test.YtejgcflcckjlpaaDoorOC12
/- Which cell bytes begin with: the program's. -/
namespace Go.Proofs.YtejgcflcckjlpaaDoor
open Go.RowKit
set_option linter.unusedVariables false
set_option maxRecDepth 100000

theorem take_fit (s : ByteArray) (h : (takeOf s).2.2 = 0) : ∃ q : Nat, (takeOf s).2.1 = (q : Int) ∧ q ≤ s.size ∧ Num64 (takeOf s).1 := by
  obtain ⟨q, h1, h2, h3, h4, _⟩ := take_back s (takeOf s).1 (takeOf s).2.1 (by rw [← h])
  exact ⟨q, h1, h2, h3, h4⟩
/-- So many numbers, as a set is read. -/
def tSet (bd : Nat) (s : ByteArray) : List Int × Int × Int :=
  if (takeOf s).2.2 ≠ 0 then ([], 0, (takeOf s).2.2) else if (takeOf s).1 < 0 ∨ (bd : Int) < (takeOf s).1 then ([], 0, 7) else rdN (takeOf s).1.toNat s (takeOf s).2.1.toNat []
theorem rdN_err : ∀ (i : Nat) (s : ByteArray) (n : Nat) (acc : List Int), (rdN i s n acc).2.2 ≠ 0 → (rdN i s n acc).1 = [] ∧ (rdN i s n acc).2.1 = 0
  | 0, s, n, acc, h => by simp [rdN] at h
  | i + 1, s, n, acc, h => by
    rw [rdN] at h ⊢
    split at h
    · rename_i h1
      rw [if_pos h1]
      exact ⟨rfl, rfl⟩
    · rename_i h1
      rw [if_neg h1]
      exact rdN_err i s _ _ h
theorem tSet_err {bd : Nat} {s : ByteArray} (h : (tSet bd s).2.2 ≠ 0) : (tSet bd s).1 = [] ∧ (tSet bd s).2.1 = 0 := by
  unfold tSet at h ⊢
  split at h
  · rename_i h1; rw [if_pos h1]; exact ⟨rfl, rfl⟩
  · rename_i h1
    rw [if_neg h1]
    split at h
    · rename_i h2; rw [if_pos h2]; exact ⟨rfl, rfl⟩
    · rename_i h2; rw [if_neg h2]; exact rdN_err _ _ _ _ h
theorem cTake6 (bd : Nat) (s : ByteArray) : cTake 6 bd s = if (tSet bd s).2.2 ≠ 0 then ((0, []), 0, (tSet bd s).2.2) else if mayC 6 bd (0, (tSet bd s).1) = true then ((0, (tSet bd s).1), (tSet bd s).2.1, 0) else ((0, []), 0, 7) := by
  unfold cTake tSet
  by_cases h1 : (takeOf s).2.2 ≠ 0
  · rw [if_pos h1, if_pos h1, if_pos h1]
  · rw [if_neg h1, if_neg h1, if_pos rfl]
    by_cases h2 : (takeOf s).1 < 0 ∨ (bd : Int) < (takeOf s).1
    · rw [if_pos h2, if_pos h2]; rfl
    · rw [if_neg h2, if_neg h2]
theorem cTakeN {agg : Int} (h6 : agg ≠ 6) (bd : Nat) (s : ByteArray) : cTake agg bd s = if (takeOf s).2.2 ≠ 0 then ((0, []), 0, (takeOf s).2.2) else if mayC agg bd ((takeOf s).1, []) = true then (((takeOf s).1, []), (takeOf s).2.1, 0) else ((0, []), 0, 7) := by
  unfold cTake
  by_cases h1 : (takeOf s).2.2 ≠ 0
  · rw [if_pos h1, if_pos h1]
  · rw [if_neg h1, if_neg h1, if_neg h6]
theorem rdN_len : ∀ (i : Nat) (s : ByteArray) (n : Nat) (acc : List Int), (rdN i s n acc).1.length ≤ acc.length + i
  | 0, s, n, acc => by simp [rdN]
  | i + 1, s, n, acc => by
    rw [rdN]
    split
    · simp
    · have := rdN_len i s (n + (takeOf (cFrom s n)).2.1.toNat) (acc ++ [(takeOf (cFrom s n)).1])
      rw [List.length_append, List.length_singleton] at this
      omega
theorem tSet_len (bd : Nat) (s : ByteArray) : (tSet bd s).1.length ≤ bd := by
  unfold tSet
  split
  · simp
  · split
    · simp
    · rename_i h1 h2
      have := rdN_len (takeOf s).1.toNat s (takeOf s).2.1.toNat []
      simp only [List.length_nil, Nat.zero_add] at this
      omega
/-- What holds all along the reading. -/
structure TkR (W0 : World) (s : ByteArray) (m : Nat) (R : List Int × Int × Int) (j n : Nat) (l : List Int) (v : Value) (W : World) : Prop where
  rd : rdN (m - j) s n l = R
  len : l.length = j
  fit : n ≤ s.size
  own : OwnL W W0.heap.size v l
  bel : Below W0.heap.size W0 W
theorem rd_bad {i n : Nat} {s : ByteArray} {l : List Int} {R : List Int × Int × Int} (h : rdN (i + 1) s n l = R) (he : (takeOf (cFrom s n)).2.2 ≠ 0) : R = ([], 0, (takeOf (cFrom s n)).2.2) := by rw [← h, rdN, if_pos he]
theorem rd_good {i n q : Nat} {s : ByteArray} {l : List Int} {R : List Int × Int × Int} (h : rdN (i + 1) s n l = R) (he : ¬ (takeOf (cFrom s n)).2.2 ≠ 0) (hq : (takeOf (cFrom s n)).2.1 = (q : Int)) : rdN i s (n + q) (l ++ [(takeOf (cFrom s n)).1]) = R := by
  rw [rdN, if_neg he, hq, Int.toNat_natCast] at h
  exact h
theorem cFrom_size (s : ByteArray) (n : Nat) : (cFrom s n).size = s.size - n := by
  unfold cFrom
  rw [ByteArray.size_extract]
  omega
abbrev SetR (w : World) (r : List Int × Int × Int) : Ending → World → Prop := fun e w' => (∃ a cap, e = .returned (.tuple #[.slice a r.1.length cap, .int .i64 r.2.1, .int .i64 r.2.2]) ∧ OwnL w' w.heap.size (.slice a r.1.length cap) r.1) ∧ Below w.heap.size w w'
theorem setR_nil {w W : World} {n e0 : Int} (h : Below w.heap.size w W) : SetR w ([], n, e0) (.returned (.tuple #[.slice none 0 0, .int .i64 n, .int .i64 e0])) W := ⟨⟨none, 0, rfl, OwnL.nil _ _⟩, h⟩
end Go.Proofs.YtejgcflcckjlpaaDoor
/- Which cell bytes begin with: the program's, whatever the way. -/
namespace Go.Proofs.YtejgcflcckjlpaaDoor
open Go.RowKit
set_option linter.unusedVariables false
set_option maxRecDepth 100000

theorem BlkC.set1 {W : World} {b : Nat} {n : Int} (u : Value) {v : Value} (h : BlkC W b n v) : BlkC (W.setCell ⟨b, 1, none⟩ u) b n u := by
  unfold BlkC at h ⊢
  simp only [World.setCell, Array.getElem?_modify, h]
  simp
theorem below_set1 {w W : World} {b o : Nat} (h : Below w.heap.size w W) (hb : w.heap.size ≤ b) (u : Value) : Below w.heap.size w (W.setCell ⟨b, o, none⟩ u) := by
  refine ⟨h.os, h.tape, h.output, by simp [World.setCell]; exact h.size, fun k hk => ?_⟩
  rw [Below.heap_setCell _ _ _ _ (by show k ≠ b; omega)]
  exact h.block k hk
theorem own_set1 {W : World} {base b o : Nat} {v : Value} {l : List Int} (h : OwnL W base v l) (hb : b < base) (u : Value) : OwnL (W.setCell ⟨b, o, none⟩ u) base v l :=
  h.kept (grownBy_set _ _ _ _) (.inr fun e => by have := own_row h b e; omega)
def takeR (agg bound : Int) (s : ByteArray) : Cl × Int × Int := if wayC agg bound then cTake agg bound.toNat s else ((0, []), 0, 1)
abbrev TakR (w : World) (r : Cl × Int × Int) : Ending → World → Prop := fun e w' => (∃ v, e = .returned (.tuple #[v, .int .i64 r.2.1, .int .i64 r.2.2]) ∧ OwnC w' w.heap.size v r.1) ∧ Below w.heap.size w w'
theorem takR_zero {w W : World} {b : Nat} {e0 : Int} (h : Below w.heap.size w W) (hb : w.heap.size ≤ b) : TakR w ((0, []), 0, e0) (.returned (.tuple #[.agg #[.int .i64 0, .slice none 0 0], .int .i64 0, .int .i64 e0])) ((W.setCell ⟨b, 0, none⟩ (.int .i64 0)).setCell ⟨b, 1, none⟩ (.slice none 0 0)) :=
  ⟨⟨_, rfl, OwnC.num _ _ _⟩, below_set h hb _ _⟩
theorem takR_new {w : World} {n m e0 : Int} : TakR w ((n, []), m, e0) (.returned (.tuple #[.agg #[.int .i64 n, .slice none 0 0], .int .i64 m, .int .i64 e0])) (w.alloc (.cells #[.int .i64 n, .slice none 0 0] 55)) :=
  ⟨⟨_, rfl, OwnC.num _ _ _⟩, (Below.refl _ _).alloc (Nat.le_refl _) _⟩
/-- What lies behind the set that was taken. -/
theorem ts_world {w W2 : World} {a : Option Addr} {cap : Nat} {l : List Int} {W1 : World} (hW : W1 = w.alloc (.cells #[.int .i64 0, .slice none 0 0] 55)) (ho : OwnL W2 W1.heap.size (.slice a l.length cap) l) (hb : Below W1.heap.size W1 W2) :
    BlkC W2 w.heap.size 0 (.slice none 0 0) ∧ Below w.heap.size w W2 ∧ W1.heap.size = w.heap.size + 1 := by
  subst hW
  exact ⟨(BlkC.new w _ _).below hb, nxt ((Below.refl _ _).alloc (Nat.le_refl _) _) hb, by simp⟩
end Go.Proofs.YtejgcflcckjlpaaDoor
/- The bytes of a cell: the program's. -/
namespace Go.Proofs.YtejgcflcckjlpaaDoor
open Go.RowKit
set_option linter.unusedVariables false
set_option maxRecDepth 100000

theorem catB_snoc : ∀ (l : List Int) (x : Int), catB (l ++ [x]) = catB l ++ bytesOf x
  | [], x => by
    show bytesOf x ++ (⟨#[]⟩ : ByteArray) = (⟨#[]⟩ : ByteArray) ++ bytesOf x
    apply ba_ext
    simp [ByteArray.data_append]
  | y :: l, x => by
    show bytesOf y ++ catB (l ++ [x]) = bytesOf y ++ catB l ++ bytesOf x
    rw [catB_snoc l x, ByteArray.append_assoc]
theorem catB_len : ∀ (l : List Int), (catB l).size ≤ 10 * l.length
  | [] => Nat.zero_le _
  | x :: l => by
    have := catB_len l
    have := bytes_len x
    rw [catB, ByteArray.size_append, List.length_cons]
    omega
/-- So many numbers' bytes, their number ahead of them. -/
def byTo (n : Nat) (l : List Int) (k : Nat) : ByteArray := bytesOf (n : Int) ++ catB (l.take k)
theorem byTo_step {n : Nat} {l : List Int} {k : Nat} {x : Int} (hx : l[k]? = some x) : byTo n l k ++ bytesOf x = byTo n l (k + 1) := by
  unfold byTo
  rw [take_snoc hx, catB_snoc, ByteArray.append_assoc]
theorem byTo_zero (n : Nat) (l : List Int) : byTo n l 0 = bytesOf (n : Int) := by
  unfold byTo
  show bytesOf (n : Int) ++ (⟨#[]⟩ : ByteArray) = _
  apply ba_ext
  simp [ByteArray.data_append]
theorem byTo_end {n : Nat} {l : List Int} {k : Nat} (hk : l.length ≤ k) : byTo n l k = bytesOf (n : Int) ++ catB l := by unfold byTo; rw [List.take_of_length_le hk]
theorem byTo_len {n : Nat} {l : List Int} {k : Nat} : (byTo n l k).size ≤ 10 + 10 * l.length := by
  unfold byTo
  rw [ByteArray.size_append]
  have := bytes_len (n : Int)
  have := catB_len (l.take k)
  have : (l.take k).length ≤ l.length := by rw [List.length_take]; omega
  omega
def bytesR (agg bound : Int) (c : Cl) : ByteArray × Int := if chk agg bound c then (cBytes agg c, 0) else (⟨#[]⟩, 1)
abbrev ByR (w : World) (r : ByteArray × Int) : Ending → World → Prop := fun e w' => e = .returned (.tuple #[.string r.1, .int .i64 r.2]) ∧ Below w.heap.size w w'
set_option maxHeartbeats 800000 in
theorem cbytes_any (agg bound : Int) (v : Value) (c : Cl) (w : World) (h : CS w v c) (hc : WfC c) (hl : c.2.length ≤ 50000) :
    Calls Tryd.prog 45 #[.int .i64 agg, .int .i64 bound, v] w (ByR w (bytesR agg bound c)) := by
  obtain ⟨a, cap, rfl, hn⟩ := h
  obtain ⟨W, hW⟩ : ∃ W : World, w.alloc (.cells #[.int .i64 c.1, .slice a c.2.length cap] 55) = W := ⟨_, rfl⟩
  have hb0 : Below w.heap.size w W := by rw [← hW]; exact (Below.refl w.heap.size w).alloc (Nat.le_refl _) _
  have hB : BlkC W w.heap.size c.1 (.slice a c.2.length cap) := by rw [← hW]; exact BlkC.new w c.1 _
  have hn1 := hn.below hb0
  have H1 := hidM (check_any agg bound _ c W ⟨a, cap, rfl, hn1⟩ (by omega))
  have HW := hidM hW
  have HB := hidM hB
  have HL := hidM hb0
  have NX := hidM (fun W' (h : Below W.heap.size W W') => nxt hb0 h)
  unfold bytesR
  cases hch : chk agg bound c with
  | false =>
    rw [hch, show errC false = 1 from rfl] at H1
    simp only [Bool.false_eq_true, if_false]
    clear hn hn1 hb0 hB hW
    go_enter Tryd.func45, Tryd.ntmps45
    go_wp2_with (go_at_call 41; rw [HW.out]; refine H1.out.mono ?_; rintro e W2 ⟨rfl, hb2⟩)
    go_ret2
    exact ⟨rfl, NX.out _ hb2⟩
  | true =>
    rw [hch, show errC true = 0 from rfl] at H1
    simp only [if_true]
    obtain ⟨hw, hm⟩ := chk_may hch
    clear hch
    by_cases h6 : agg = 6
    · subst h6
      rw [show cBytes 6 c = byTo c.2.length c.2 c.2.length by unfold cBytes; rw [if_pos rfl, byTo_end (Nat.le_refl _)]]
      have H2 := hidM (fun W' => bytes_any (c.2.length : Int) W' (by omega) (by omega))
      have H3 := hidM (fun x (hx : x ∈ c.2) W' => bytes_any x W' (hc.2 x hx).1 (hc.2 x hx).2)
      have HA := hidM (show ∀ i x, c.2[i]? = some x → ∃ p o, a = some ⟨p, o, none⟩ ∧ ∀ W', Below W.heap.size W W' → W'.cell? ⟨p, o + i, none⟩ = some (.int .i64 x) from fun i x hx => by
        obtain ⟨a', c', e, h⟩ := hn1
        injection e with e1 e2 e3
        subst e1 e3
        rcases h with e | ⟨p, o, rfl, hp, hat⟩
        · rw [e] at hx; simp at hx
        · exact ⟨p, o, rfl, fun W' hW' => hat.below hW' hp i x hx⟩)
      have HZ := hidM (fun k => byTo_len (n := c.2.length) (l := c.2) (k := k))
      clear hn hn1 hb0 hB hm hw hW hc
      obtain ⟨n, l⟩ := c
      simp only at *
      obtain ⟨m, hm⟩ : ∃ m, l.length = m := ⟨_, rfl⟩
      rw [hm] at H1 H2 HW HB HZ hl ⊢
      have HM := hidM hm
      clear hm
      go_enter Tryd.func45, Tryd.ntmps45
      go_wp2_with (go_at_call 41; rw [HW.out]; refine H1.out.mono ?_; rintro e W2 ⟨rfl, hb2⟩; obtain ⟨c0, c1, -, -⟩ := (HB.out.below hb2).cells)
      go_wp2_with (go_at_call 29; refine (H2.out _).mono ?_; rintro e W3 ⟨rfl, hb3⟩; have hb3' := nxt hb2 hb3; obtain ⟨d0, d1, -, -⟩ := (HB.out.below hb3').cells)
      rw [← byTo_zero m l]
      go_loopw [9, 31] (fun s i wr => ∃ k : Nat, k ≤ m ∧ i = .int .i64 (k : Int) ∧ s = .string (byTo m l k) ∧ Below W.heap.size W wr) (fun _ i _ => m - (intOf i).toNat)
      case atStart => exact ⟨0, by omega, rfl, rfl, hb3'⟩
      case round =>
        obtain ⟨k, hk, rfl, rfl, hbk⟩ := hrel
        by_cases hlt : k < m
        · obtain ⟨x, hx⟩ := getSome (l := l) (i := k) (by have := HM.out; omega)
          obtain ⟨p, o, rfl, hc⟩ := HA.out k x hx
          have c5 := hc _ hbk
          have H3' := hidM (H3.out x (List.mem_of_getElem? hx) wr)
          have HS := hidM (byTo_step (n := m) hx)
          have z1 := HZ.out k
          have z2 := bytes_len x
          clear hx hc
          have hk0 : (0 : Int) ≤ k := by omega
          have hkl : (k : Int) < m := by omega
          generalize bytesOf x = bx at *
          generalize hby : byTo m l k = by0 at *
          go_wp2_with (go_at_call 29; refine H3'.out.mono ?_; rintro e W4 ⟨rfl, hb4⟩)
          go_roundw
          case rel => exact ⟨k + 1, by omega, by go_num, by rw [HS.out], nxt hbk hb4⟩
          case measure => simp [intOf]; omega
        · obtain rfl : k = m := by omega
          go_wp2
          go_ret2
          exact ⟨rfl, NX.out _ hbk⟩
    · have h6' : (agg != 6) = true := by simpa using h6
      have h6'' : (agg == 6) = false := by simpa using h6
      rw [show cBytes agg c = bytesOf c.1 by unfold cBytes; rw [if_neg h6]]
      have H2 := hidM (fun W' => bytes_any c.1 W' hc.1.1 hc.1.2)
      clear hn hn1 hb0 hB hm hw hW
      go_enter Tryd.func45, Tryd.ntmps45
      go_wp2_with (go_at_call 41; rw [HW.out]; refine H1.out.mono ?_; rintro e W2 ⟨rfl, hb2⟩; obtain ⟨c0, c1, -, -⟩ := (HB.out.below hb2).cells)
      go_wp2_with (go_at_call 29; refine (H2.out _).mono ?_; rintro e W3 ⟨rfl, hb3⟩)
      go_ret2
      exact ⟨rfl, NX.out _ (nxt hb2 hb3)⟩
end Go.Proofs.YtejgcflcckjlpaaDoor
/- What cells come to, and that they may be. -/
namespace Go.Proofs.YtejgcflcckjlpaaDoor
open Go.RowKit
set_option linter.unusedVariables false
set_option maxRecDepth 100000
theorem num_zero : Num64 0 := by unfold Num64; decide
theorem chk_one {agg bound : Int} (v : Int) (hw : wayC agg bound = true) : chk agg bound (oneC agg v) = true := by
  obtain ⟨g1, g6, gb, gb32, gb1⟩ := wayC_bd hw
  unfold chk
  rw [hw, Bool.true_and]
  by_cases h6 : agg = 6
  · subst h6
    rw [show oneC 6 v = (0, [v]) from rfl, may6]
    have : Rise [v] := by simp [Rise]
    simp only [List.length_singleton, decide_eq_true this, Bool.and_true]
    simp
    have := gb1 rfl
    omega
  · unfold oneC n1 mayC
    rw [if_neg h6, if_neg h6]
    simp
    by_cases h2 : agg = 2
    · exact .inr (by rw [if_pos h2]; decide)
    · exact .inl h2
theorem wf_one {agg v : Int} (h : Num64 v) : WfC (oneC agg v) ∧ (oneC agg v).2.length ≤ 32 := by
  unfold oneC
  by_cases h6 : agg = 6
  · rw [if_pos h6]
    exact ⟨⟨num_zero, fun x hx => by simp at hx; subst hx; exact h⟩, by simp⟩
  · rw [if_neg h6]
    refine ⟨⟨?_, fun x hx => by simp at hx⟩, by simp⟩
    unfold n1
    show Num64 (if agg = 2 then 1 else v)
    split
    · unfold Num64; decide
    · exact h
theorem joinR_of {agg bound : Int} {a b : Cl} (ca : chk agg bound a = true) (cb : chk agg bound b = true) : joinR agg bound a b = joinC agg bound.toNat a b := by unfold joinR; rw [ca, cb]; simp
/-- What two are together may be, where there is no error. -/
theorem chk_join {agg bound : Int} {a b : Cl} (ca : chk agg bound a = true) (cb : chk agg bound b = true) (wa : WfC a) (wb : WfC b) :
    ((joinR agg bound a b).2 = 0 → chk agg bound (joinR agg bound a b).1 = true) ∧ WfC (joinR agg bound a b).1 ∧ (joinR agg bound a b).1.2.length ≤ 32 ∧ ((joinR agg bound a b).2 = 0 ∨ (joinR agg bound a b).2 = 11) := by
  rw [joinR_of ca cb]
  obtain ⟨hw, hma⟩ := chk_may ca
  obtain ⟨-, hmb⟩ := chk_may cb
  obtain ⟨g1, g6, gb, gb32, gb1⟩ := wayC_bd hw
  unfold chk
  rw [hw]
  simp only [Bool.true_and]
  unfold joinC
  by_cases h6 : agg = 6
  · subst h6
    rw [if_pos rfl]
    have hb := (may_rise hmb).2.1
    by_cases hle : (uni a.2 b.2).length ≤ bound.toNat
    · rw [if_pos hle]
      refine ⟨fun _ => ?_, ⟨num_zero, fun v hv => ?_⟩, by show (uni a.2 b.2).length ≤ 32; omega, .inl rfl⟩
      · rw [may6]
        simp only [decide_eq_true (rise_uni a.2 hb), decide_eq_true hle, Bool.and_true]
        rfl
      · have hv' : v ∈ uni a.2 b.2 := hv
        rw [mem_uni] at hv'
        rcases hv' with h | h
        · exact wa.2 v h
        · exact wb.2 v h
    · rw [if_neg hle]
      exact ⟨fun h => by simp at h, ⟨num_zero, fun v hv => by simp at hv⟩, by simp, .inr rfl⟩
  · rw [if_neg h6]
    have pa := (may_num h6 hma).2
    have pb := (may_num h6 hmb).2
    refine ⟨fun _ => ?_, ⟨num_nF wa.1 wb.1 pa pb, fun v hv => by simp at hv⟩, by simp, .inl rfl⟩
    unfold mayC
    rw [if_neg h6]
    have := nF_P agg a.1 b.1 pa pb
    simp
    by_cases h2 : agg = 2
    · exact .inr (this h2)
    · exact .inl h2
theorem app_empty (s : ByteArray) : s ++ (⟨#[]⟩ : ByteArray) = s := by
  apply ba_ext
  simp [ByteArray.data_append]
/-- The bytes of a cell that may be are taken as it. -/
theorem take_of_bytes {agg bound : Int} {c : Cl} (hc : chk agg bound c = true) (hw : WfC c) (x : ByteArray) : takeR agg bound (cBytes agg c ++ x) = (c, ((cBytes agg c).size : Int), 0) := by
  obtain ⟨h1, h2⟩ := chk_may hc
  obtain ⟨g1, g6, gb, gb32, gb1⟩ := wayC_bd h1
  unfold takeR
  rw [h1]
  simp only [if_true]
  exact cTake_bytes agg bound.toNat c x h2 (by omega) hw.1 hw.2
theorem cBytes_len {agg : Int} {c : Cl} : (cBytes agg c).size ≤ 10 + 10 * c.2.length := by
  unfold cBytes
  split
  · rw [ByteArray.size_append]
    have := bytes_len (c.2.length : Int)
    have := catB_len c.2
    omega
  · have := bytes_len c.1
    omega
theorem bytesR_of {agg bound : Int} {c : Cl} (hc : chk agg bound c = true) : bytesR agg bound c = (cBytes agg c, 0) := by unfold bytesR; rw [hc]; simp
theorem oneR_of {agg bound : Int} (v : Int) (hw : wayC agg bound = true) : oneR agg bound v = (oneC agg v, 0) := by unfold oneR; rw [hw]; simp
theorem chk_zero {agg bound : Int} (hw : wayC agg bound = true) : chk agg bound (0, []) = true := by
  unfold chk
  rw [hw, Bool.true_and]
  by_cases h6 : agg = 6
  · subst h6
    rw [may6]
    have : Rise ([] : List Int) := Rise.nil
    simp [this]
  · unfold mayC
    rw [if_neg h6]
    simp
end Go.Proofs.YtejgcflcckjlpaaDoor
