/- Texts laid together: JBld, JBy, JRJob, JRBy, JTk, JRRd, JRTk. -/
import Derived.Test.YtclcgakfmcofaaaGreatDoorMJ29
import Derived.Test.YtclcgakfmcofaaaGreatDoorMJ46
import Derived.Test.YtclcgakfmcofaaaGreatDoorMJ2
import Derived.Test.YtclcgakfmcofaaaGreatDoorMJ28
import Derived.Test.YtclcgakfmcofaaaGreatDoorMJ26
import Derived.Test.YtclcgakfmcofaaaGreatDoorMJ45
import Derived.Test.YtclcgakfmcofaaaGreatDoorMJ27
import Derived.Test.YtclcgakfmcofaaaGreatDoorMJ35
import Derived.Test.YtclcgakfmcofaaaGreatDoorMJ49
/- strings.Builder: what is written leaves all rows of numbers as they are; job.addNumbers. -/
namespace Go.Proofs.YtclcgakfmcofaaaGreatDoor
open Go.RowKit Go.Shelf
set_option linter.unusedVariables false
set_option maxRecDepth 100000

/-- All blocks stay but Builders and rows of bytes. -/
def KpI (w w' : World) : Prop := w.heap.size ≤ w'.heap.size ∧ ∀ (k : Nat) (cur : Array Value) (T : TypeId) (fr : Nat × Nat), w.heap[k]? = some (.cells cur T fr) → T ≠ 5 → T ≠ 70 → w'.heap[k]? = w.heap[k]?
theorem KpI.refl (w : World) : KpI w w := ⟨Nat.le_refl _, fun _ _ _ _ _ _ _ => rfl⟩
theorem KpI.trans {a b c : World} (h : KpI a b) (k : KpI b c) : KpI a c := ⟨Nat.le_trans h.1 k.1, fun i cur T fr hi h5 hB => by
  have e := h.2 i cur T fr hi h5 hB
  rw [← e]
  exact k.2 i cur T fr (by rw [e]; exact hi) h5 hB⟩
theorem KpI.below {w w' : World} (h : Below w.heap.size w w') : KpI w w' := ⟨h.size, fun k cur T fr hk _ _ => h.block k (Array.getElem?_eq_some_iff.1 hk).1⟩
theorem KpI.set {w : World} {b o : Nat} {cur : Array Value} {fr : Nat × Nat} (h : w.heap[b]? = some (.cells cur 70 fr)) (y : Value) : KpI w (w.setCell ⟨b, o, none⟩ y) := ⟨by simp [World.setCell], fun k cur' T fr' hk _ hB => Below.heap_setCell _ _ _ _ (fun e => hB (by
  have e : k = b := e
  rw [e, h] at hk
  injection hk with hk
  injection hk with _ hk _
  exact hk.symm))⟩
theorem KpI.row {w w' : World} {B : Nat} {v : Value} {n : Nat} {xs : List Value} (h : w.ownsRow B 5 1 v n xs) (hg : w.grownBy w' v.ownBlock) : KpI w w' := ⟨hg.size, fun k cur T fr hk h5 _ => hg.block k (Array.getElem?_eq_some_iff.1 hk).1 (fun e => by
  rcases h.2 with ⟨rfl, -⟩ | ⟨g, cap, cur', rfl, -, hb, -⟩
  · cases e
  · have e : some k = some g := e
    injection e with e
    rw [e, hb] at hk
    injection hk with hk
    injection hk with _ hk _
    exact h5 hk.symm)⟩
theorem bcheckK_any (B b : Nat) (s : ByteArray) (w : World) (h : Bld B b s w) :
    Calls Tryz.prog 76 #[.pointer (some ⟨b, 0, none⟩)] w fun e w' => e = .returned (.tuple #[]) ∧ Lib.BuilderAt 70 5 B b (.pointer (some ⟨b, 0, none⟩)) (Lib.strCells s) w' ∧ Below B w w' ∧ KpI w w' := by
  rcases h with h | h
  · have h' := h
    obtain ⟨_, v, hb, _⟩ := h'
    exact (bcheck_new b w h.cell0 h.shape h.frozen0).mono fun e w' ⟨he, hw⟩ => ⟨he, by rw [hw]; exact h.used _, by rw [hw]; exact (Below.refl B w).setCell (p := ⟨b, 0, none⟩) h.1 _, by rw [hw]; exact KpI.set hb _⟩
  · exact (bcheck_used b w h.cell0).mono fun e w' ⟨he, hw⟩ => ⟨he, by rw [hw]; exact h, by rw [hw]; exact Below.refl B _, by rw [hw]; exact KpI.refl _⟩
set_option maxHeartbeats 800000 in
theorem bwriteK_any (B b : Nat) (s t : ByteArray) (w : World) (h : Bld B b s w) (hlen : s.size + t.size ≤ 140737488355328) (hBw : B ≤ w.heap.size) :
    Calls Tryz.prog 34 #[.pointer (some ⟨b, 0, none⟩), .string t] w fun e w' => e = .returned (.tuple #[.int .i64 t.size, .nilIface]) ∧ Bld B b (s ++ t) w' ∧ Below B w w' ∧ KpI w w' := by
  obtain ⟨i0, hi, hz0, hz1, hz2⟩ := info_parts Tryz.infoByte
  have hst : Lib.strCells (s ++ t) = Lib.strCells s ++ Lib.strCells t := by simp [Lib.strCells, ByteArray.data_append]
  go_enter Tryz.func34, Tryz.ntmps34
  go_wp2_with fail
  refine (bcheckK_any B b s w h).mono ?_
  rintro e w1 ⟨rfl, hat, hb1, hk1⟩
  have HK1 := hidM hk1
  have hlt := hat.lt
  have c0 := hat.cell0
  obtain ⟨hB, v, hbk, hown, hne⟩ := hat
  have c1 : w1.cell? ⟨b, 1, none⟩ = some v := by rw [Lib.cell_of_heap hbk]; rfl
  have hz := Nat.le_trans hBw hb1.size
  have hls := Lib.strCells_length s
  clear hk1
  go_wp2_with (at_builtin; refine Lib.wpList_append_own_string _ rfl _ _ 68 9 rfl B 5 i0 Tryz.underlying68 Tryz.underlying9 hi hz0 hz1 hz2 _ _ _ rfl hown t rfl ?c3 ?c4 ?c5 ?_)
  case c3 => unfold maxLen; omega
  case c4 => omega
  case c5 => omega
  intro v2 w2 hown2 hgrow _
  have hb2 : w2.heap[b]? = some (.cells #[.pointer (some ⟨b, 0, none⟩), v] 70 (0, 0)) := (hgrow.block b hlt (fun e => hne e.symm)).trans hbk
  have d0 : w2.cell? ⟨b, 0, none⟩ = some (.pointer (some ⟨b, 0, none⟩)) := by rw [Lib.cell_of_heap hb2]; rfl
  have d1 : w2.cell? ⟨b, 1, none⟩ = some v := by rw [Lib.cell_of_heap hb2]; rfl
  have f1 : w2.frozen? ⟨b, 1, none⟩ = false := Lib.frozen_of_heap hb2 1
  have hput : Bld B b (s ++ t) (w2.setCell ⟨b, 1, none⟩ v2) := by
    refine .inr (Lib.BuilderAt.put hB hb2 ?_ (by decide))
    rw [hst]
    simpa [Lib.strCells_length] using hown2
  have hbel := (hb1.grown hgrow hz (fun k hk => (hown.lt k hk).1)).setCell (p := ⟨b, 1, none⟩) hB v2
  have HKK := hidM ((HK1.out.trans (KpI.row hown hgrow)).trans (KpI.set (o := 1) hb2 v2))
  obtain ⟨ao, n', cap, rfl⟩ : ∃ ao n' cap, v2 = .slice ao n' cap := by
    rcases hown2.2 with ⟨hv, _⟩ | ⟨g, cap, cur, hv, _⟩ <;> exact ⟨_, _, _, hv⟩
  go_wp2
  go_ret2
  exact ⟨rfl, hput, hbel, HKK.out⟩
/-- What a Builder's writing leaves. -/
def AddP (B b : Nat) (s : ByteArray) (w : World) (e : Ending) (w' : World) : Prop := e = .returned (.tuple #[]) ∧ Bld B b s w' ∧ Below B w w' ∧ KpI w w'
set_option maxHeartbeats 800000 in
theorem addNums_any (B b : Nat) (s : ByteArray) (v : Value) (l : List Int) (w : World) (h : Bld B b s w) (hv : ∃ a c, v = .slice a l.length c) (hn : ∀ w', KpI w w' → Below B w w' → NS w' v l) (hl : l.length ≤ 1000) (hs : s.size ≤ 1000000) (hBw : B ≤ w.heap.size) (hnum : ∀ x ∈ l, Num64 x) :
    Calls Tryz.prog 33 #[.pointer (some ⟨b, 0, none⟩), v] w (AddP B b (s ++ numsB l) w) := by
  have HN := hidM hn
  have HB := hidM h
  have HNUM := hidM hnum
  obtain ⟨a, cap, rfl⟩ := hv
  clear hn h hnum
  go_enter Tryz.func33, Tryz.ntmps33
  go_wp2
  go_loopw [8] (fun i wr => ∃ k : Nat, k ≤ l.length ∧ i = .int .i64 k ∧ Hid (Bld B b (s ++ numsB (l.take k)) wr) ∧ Hid (Below B w wr) ∧ Hid (KpI w wr)) (fun i _ => l.length - (intOf i).toNat)
  case atStart => exact ⟨0, by omega, rfl, hidM (by rw [List.take_zero]; show Bld B b (s ++ (⟨#[]⟩ : ByteArray)) w; rw [app_nil]; exact HB.out), hidM (Below.refl _ _), hidM (KpI.refl _)⟩
  case round =>
    rename World => w0
    obtain ⟨k, hk, rfl, H1, H2, H3⟩ := hrel
    by_cases hlt : k < l.length
    · obtain ⟨x, hx⟩ := getSome hlt
      have hns := HN.out w0 H3.out H2.out
      obtain ⟨a', cap', e, hsh⟩ := hns
      injection e with e1 e2 e3
      subst e1
      rcases hsh with hnil | ⟨g, off, rfl, hb, hat⟩
      · rw [hnil] at hlt; simp at hlt
      have c0 := hat k x hx
      have hki : (k : Int) < (l.length : Int) := by omega
      have hxn := HNUM.out x (List.mem_of_getElem? hx)
      have hsz : B ≤ w0.heap.size := Nat.le_trans hBw H2.out.size
      have e4 : s ++ numsB (l.take (k + 1)) = (s ++ numsB (l.take k)) ++ bytesOf x := by
        rw [List.take_add_one, hx]
        show s ++ numsB (l.take k ++ [x]) = _
        rw [numsB_snoc, app_assoc]
      have hszs : (s ++ numsB (l.take k)).size + (bytesOf x).size ≤ 140737488355328 := by
        have := numsB_size (l.take k)
        have := bytes_len x
        rw [List.length_take] at *
        rw [ByteArray.size_append]
        omega
      have HC := hidM (bytes_any x w0 hxn.1 hxn.2)
      have HW := hidM (fun (W : World) (hb : Below w0.heap.size w0 W) => bwriteK_any B b (s ++ numsB (l.take k)) (bytesOf x) W (H1.out.below hb) hszs (Nat.le_trans hsz hb.size))
      rw [← e4] at HW
      have HSZ := hidM hsz
      clear hat hx hszs e4 hsz e2 e3 hxn
      go_wp2_with (first
        | (go_at_call 75; refine HC.out.mono ?_; rintro e W1 ⟨rfl, hb1⟩)
        | (go_at_call 34; refine (HW.out _ hb1).mono ?_; rintro e W2 ⟨rfl, hB2, hb2, hk2⟩))
      go_roundw
      case rel => exact ⟨k + 1, by omega, by go_num, hidM hB2, hidM ((H2.out.trans (hb1.mono HSZ.out)).trans hb2), hidM ((H3.out.trans (KpI.below hb1)).trans hk2)⟩
      case measure => simp [intOf]; omega
    · have hki : ¬ (k : Int) < (l.length : Int) := by omega
      have H4 := hidM (show Bld B b (s ++ numsB l) w0 by have := H1.out; rwa [List.take_of_length_le (by omega)] at this)
      go_wp2
      go_end0
      exact ⟨rfl, H4.out, H2.out, H3.out⟩
end Go.Proofs.YtclcgakfmcofaaaGreatDoor
/- job.Bytes. -/
namespace Go.Proofs.YtclcgakfmcofaaaGreatDoor
open Go.RowKit Go.Shelf
set_option linter.unusedVariables false
set_option maxRecDepth 100000

theorem ns_lit {w : World} {g : Nat} {l : List Int} {cur : Array Value} (hg : w.heap[g]? = some (.cells cur 3 (0, 0))) (hc : cur.toList = l.map (Value.int .i64)) (n : Nat) (hn : n = l.length) : ∀ w', KpI w w' → NS w' (.slice (some ⟨g, 0, none⟩) n n) l := fun w' hk => by
  subst hn
  have e := hk.2 g cur 3 (0, 0) hg (by decide) (by decide)
  rw [hg] at e
  refine ⟨_, _, rfl, .inr ⟨g, 0, rfl, (Array.getElem?_eq_some_iff.1 e).1, fun i x hx => ?_⟩⟩
  have h1 : cur.toList[i]? = some (.int .i64 x) := by rw [hc, List.getElem?_map, hx]; rfl
  simp only [World.cell?, e, Nat.zero_add]
  rw [Array.getElem?_toList] at h1
  simp [h1]
def byRes (j : Jb) (l : List Int) : ByteArray × Int := if jobB j l then (jobBy j l, 0) else (⟨#[]⟩, 1)
set_option maxHeartbeats 1600000 in
theorem jbytes_any (j : Jb) (v : Value) (l : List Int) (w : World) (h : InJ w j v l) :
    Calls Tryz.prog 7 #[jobV j v] w (ByR w (byRes j l)) := by
  obtain ⟨a, c, rfl⟩ := h.slice
  have hb0 := stJ w (.cells #[.int .i64 j.id, .string j.prog, .int .i64 j.agg, .int .i64 j.bound, .int .i64 j.fuel, .slice a l.length c, .int .i64 j.parts] 37)
  have hB := Blk7.new w (.int .i64 j.id) (.string j.prog) (.int .i64 j.agg) (.int .i64 j.bound) (.int .i64 j.fuel) (.slice a l.length c) (.int .i64 j.parts)
  obtain ⟨W0, hW0⟩ : ∃ W0 : World, W0 = w.alloc (.cells #[.int .i64 j.id, .string j.prog, .int .i64 j.agg, .int .i64 j.bound, .int .i64 j.fuel, .slice a l.length c, .int .i64 j.parts] 37) := ⟨_, rfl⟩
  rw [← hW0] at hb0 hB
  obtain ⟨a0, a1, a2, a3, a4, a5, a6⟩ := hB.cells
  have H1 := hidM (jcheck_any j (.slice a l.length c) l W0 (h.ns.below hb0) h.len)
  have HW := hidM hW0.symm
  have HB := hidM hb0
  have HBK := hidM hB
  have HIN := hidM h
  unfold byRes
  cases hj : jobB j l with
  | false =>
    rw [hj] at H1
    clear hW0 hb0 hB h hj
    go_enter Tryz.func7, Tryz.ntmps7
    go_wp2_with fail
    rw [HW.out]
    refine H1.out.mono ?_
    rintro e W1 ⟨rfl, hb1⟩
    rw [show errC false = 1 from rfl]
    go_wp2
    go_ret2
    exact ⟨rfl, nxt HB.out hb1⟩
  | true =>
    rw [hj] at H1
    have hJ := jobB_of hj
    have hl6 := hJ.len
    have hp := hJ.prog
    have HSZ := hidM (jobBy_size hJ)
    clear hW0 hb0 hB h hj hJ
    go_enter Tryz.func7, Tryz.ntmps7
    go_wp2_with fail
    rw [HW.out]
    refine H1.out.mono ?_
    rintro e W1 ⟨rfl, hb1⟩
    rw [show errC true = 0 from rfl]
    obtain ⟨X, hX⟩ : ∃ X : World, X = W1.alloc (.cells #[.pointer none, .slice none 0 0] 70) := ⟨_, rfl⟩
    have hbX : Below W1.heap.size W1 X := by rw [hX]; exact stJ W1 _
    have hszX : X.heap.size = W1.heap.size + 1 := by rw [hX]; simp
    have hbld : Bld W1.heap.size W1.heap.size ⟨#[]⟩ X := by rw [hX]; exact Bld.new W1
    have HJ := hidM (show ∀ W, Below W1.heap.size W1 W → W.cell? ⟨w.heap.size, 0, none⟩ = some (.int .i64 j.id) ∧ W.cell? ⟨w.heap.size, 1, none⟩ = some (.string j.prog) ∧ W.cell? ⟨w.heap.size, 2, none⟩ = some (.int .i64 j.agg) ∧ W.cell? ⟨w.heap.size, 3, none⟩ = some (.int .i64 j.bound) ∧ W.cell? ⟨w.heap.size, 4, none⟩ = some (.int .i64 j.fuel) ∧ W.cell? ⟨w.heap.size, 5, none⟩ = some (.slice a l.length c) ∧ W.cell? ⟨w.heap.size, 6, none⟩ = some (.int .i64 j.parts) from fun W hW => ((HBK.out.below hb1).below hW).cells)
    have HL := hidM (show ∀ W, Below W1.heap.size W1 W → NS W (.slice a l.length c) l from fun W hW => ((HIN.out.ns.below HB.out).below hb1).below hW)
    have HEND := hidM (show ∀ W, Below W1.heap.size W1 W → Below w.heap.size w W from fun W hW => nxt (nxt HB.out hb1) hW)
    have HXE := hidM hX.symm
    have n1 : Num64 j.id := HIN.out.id
    have hnum : ∀ x ∈ l, Num64 x := HIN.out.nums
    have HLIT := hidM (show ∀ (W : World) (m : List Int) (cur : Array Value), cur.toList = m.map (Value.int .i64) → ∀ w', KpI (W.alloc (.cells cur 3)) w' → Below W1.heap.size (W.alloc (.cells cur 3)) w' → NS w' (.slice (some ⟨W.heap.size, 0, none⟩) m.length m.length) m from fun W m cur hc w' hk _ => ns_lit (heap_alloc_new W _) hc _ rfl w' hk)
    have hpi : Num64 (j.prog.size : Int) := ⟨by omega, by omega⟩
    have HADD := hidM (fun (W : World) (s : ByteArray) (m : List Int) (cur : Array Value) (hW : Below W1.heap.size W1 W) (hB : Bld W1.heap.size W1.heap.size s W) (hs : s.size ≤ 1000000) (hc : cur.toList = m.map (Value.int .i64)) (hm : m.length ≤ 1000) (hn : ∀ x ∈ m, Num64 x) =>
      (addNums_any W1.heap.size W1.heap.size s (.slice (some ⟨W.heap.size, 0, none⟩) m.length m.length) m (W.alloc (.cells cur 3)) (hB.below (stJ W _)) ⟨_, _, rfl⟩ (HLIT.out W m cur hc) hm hs (nxt hW (stJ W (.cells cur 3))).size hn).mono (fun e w' (h : AddP _ _ _ _ e w') => (⟨h.1, h.2.1, (nxt hW (stJ W (.cells cur 3))).trans h.2.2.1⟩ : e = .returned (.tuple #[]) ∧ Bld W1.heap.size W1.heap.size (s ++ numsB m) w' ∧ Below W1.heap.size W1 w')))
    obtain ⟨b0, b1, b2, b3, b4, b5, b6⟩ := HJ.out X hbX
    rw [hX] at b0 b1
    have HBX := hidM hbX
    have HBLD := hidM hbld
    clear a0 a1 a2 a3 a4 a5 a6 hb1 b2 b3 b4 b5 b6 hX hbX hbld
    go_wp2_with fail
    rw [HXE.out]
    rw [← hszX]
    have hq1 := HIN.out.agg
    have hq2 := HIN.out.bound
    have hq3 := HIN.out.fuel
    have hq4 := HIN.out.parts
    refine (HADD.out X ⟨#[]⟩ [j.id, (j.prog.size : Int)] #[.int .i64 j.id, .int .i64 (j.prog.size : Int)] HBX.out HBLD.out (by decide) rfl (by simp) (by intro x hx; simp at hx; rcases hx with rfl | rfl; exact n1; exact hpi)).mono ?_
    rintro e W2 ⟨rfl, hB2, hb2⟩
    obtain ⟨b0, b1, b2, b3, b4, b5, b6⟩ := HJ.out W2 hb2
    have hs1 : (⟨#[]⟩ ++ numsB [j.id, (j.prog.size : Int)] : ByteArray).size ≤ 20 := by have := numsB_size [j.id, (j.prog.size : Int)]; rw [nil_app]; simpa using this
    obtain ⟨s1, hs1e⟩ : ∃ s1 : ByteArray, s1 = ⟨#[]⟩ ++ numsB [j.id, (j.prog.size : Int)] := ⟨_, rfl⟩
    rw [← hs1e] at hB2 hs1
    have HE1 := hidM hs1e
    have HB2 := hidM hB2
    have hz2 := hb2.size
    have HW2 := hidM (bwriteK_any W1.heap.size W1.heap.size s1 j.prog W2 hB2 (by omega) hz2)
    have HB2b := hidM hb2
    clear hs1e hB2 hb2
    go_wp2_with fail
    refine HW2.out.mono ?_
    rintro e W3 ⟨rfl, hB3, hb3', -⟩
    have hb3 := HB2b.out.trans hb3'
    obtain ⟨b0, b1, b2, b3, b4, b5, b6⟩ := HJ.out W3 hb3
    have hs2 : (s1 ++ j.prog).size ≤ 600 := by rw [ByteArray.size_append]; omega
    obtain ⟨s2, hs2e⟩ : ∃ s2 : ByteArray, s2 = s1 ++ j.prog := ⟨_, rfl⟩
    rw [← hs2e] at hB3 hs2
    have HE2 := hidM hs2e
    have HB3 := hidM hB3
    have HB3b := hidM hb3
    clear hs2e hB3 hb3 hb3'
    go_wp2_with fail
    refine (HADD.out W3 s2 [j.agg, j.bound, j.fuel, (l.length : Int)] #[.int .i64 j.agg, .int .i64 j.bound, .int .i64 j.fuel, .int .i64 (l.length : Int)] HB3b.out HB3.out (by omega) rfl (by simp) (by intro x hx; simp at hx; rcases hx with rfl | rfl | rfl | rfl; exact hq1; exact hq2; exact hq3; exact ⟨by omega, by omega⟩)).mono ?_
    rintro e W4 ⟨rfl, hB4, hb4⟩
    obtain ⟨b0, b1, b2, b3, b4, b5, b6⟩ := HJ.out W4 hb4
    have hs3 : (s2 ++ numsB [j.agg, j.bound, j.fuel, (l.length : Int)]).size ≤ 700 := by have := numsB_size [j.agg, j.bound, j.fuel, (l.length : Int)]; simp only [List.length_cons, List.length_nil] at this; rw [ByteArray.size_append]; omega
    obtain ⟨s3, hs3e⟩ : ∃ s3 : ByteArray, s3 = s2 ++ numsB [j.agg, j.bound, j.fuel, (l.length : Int)] := ⟨_, rfl⟩
    rw [← hs3e] at hB4 hs3
    have HE3 := hidM hs3e
    have hz4 := hb4.size
    have HW4 := hidM (addNums_any W1.heap.size W1.heap.size s3 (.slice a l.length c) l W4 hB4 ⟨a, c, rfl⟩ (fun w' _ hw' => HL.out w' (hb4.trans hw')) (by omega) (by omega) hz4 hnum)
    have HB4b := hidM hb4
    clear hs3e hB4 hb4
    go_wp2_with fail
    refine HW4.out.mono ?_
    rintro e W5 ⟨rfl, hB5, hb5', -⟩
    have hb5 := HB4b.out.trans hb5'
    obtain ⟨b0, b1, b2, b3, b4, b5, b6⟩ := HJ.out W5 hb5
    have hs4 : (s3 ++ numsB l).size ≤ 800 := by have := numsB_size l; rw [ByteArray.size_append]; omega
    obtain ⟨s4, hs4e⟩ : ∃ s4 : ByteArray, s4 = s3 ++ numsB l := ⟨_, rfl⟩
    rw [← hs4e] at hB5 hs4
    have HE4 := hidM hs4e
    have HB5 := hidM hB5
    have HB5b := hidM hb5
    clear hs4e hB5 hb5 hb5'
    go_wp2_with fail
    refine (HADD.out W5 s4 [j.parts] #[.int .i64 j.parts] HB5b.out HB5.out (by omega) rfl (by simp) (by intro x hx; simp at hx; subst hx; exact hq4)).mono ?_
    rintro e W6 ⟨rfl, hB6, hb6⟩
    have hz6 := hb6.size
    have HW6 := hidM (bstring_any W1.heap.size W1.heap.size (s4 ++ numsB [j.parts]) W6 hB6 hz6)
    have HB6b := hidM hb6
    clear hB6 hb6
    go_wp2_with fail
    refine HW6.out.mono ?_
    rintro e W7 ⟨rfl, hb7⟩
    have HF := hidM (HEND.out W7 (HB6b.out.trans hb7))
    clear hb7
    go_wp2
    go_ret2
    refine ⟨?_, HF.out⟩
    rw [HE4.out, HE3.out, HE2.out, HE1.out]
    unfold jobBy
    rw [nil_app, app_assoc, app_assoc, app_assoc]
    rfl
end Go.Proofs.YtclcgakfmcofaaaGreatDoor
/- The page's own Job. -/
namespace Go.Proofs.YtclcgakfmcofaaaGreatDoor
open Go.RowKit
set_option linter.unusedVariables false
set_option maxRecDepth 100000

theorem jobB_page (j : Jb) (l : List Int) : jobB j l = (decide (1 ≤ j.id ∧ j.id ≤ 1048576) && (decide (j.prog.size ≤ 512) && (wayC j.agg j.bound && (decide (0 ≤ j.fuel ∧ j.fuel ≤ 2000) && (decide (1 ≤ l.length ∧ l.length ≤ 6) && (risL 1 1048576 l && mayP j.parts)))))) := rfl
set_option maxHeartbeats 1600000 in
theorem rjob_any (j : Jb) (v : Value) (l : List Int) (w : World) (hn : NS w v l) (hl : l.length ≤ 100000) : Calls Tryz.prog 8 #[jobV j v] w fun e w' => e = .returned (.bool (jobB j l)) ∧ Below w.heap.size w w' := by
  obtain ⟨a, c, rfl⟩ : ∃ a c, v = .slice a l.length c := by
    obtain ⟨a, c, e, -⟩ := hn
    exact ⟨a, c, e⟩
  have hb0 := stJ w (.cells #[.int .i64 j.id, .string j.prog, .int .i64 j.agg, .int .i64 j.bound, .int .i64 j.fuel, .slice a l.length c, .int .i64 j.parts] 37)
  have hB := BlkJ.new w j (.slice a l.length c)
  obtain ⟨W0, hW0⟩ : ∃ W0 : World, W0 = w.alloc (.cells #[.int .i64 j.id, .string j.prog, .int .i64 j.agg, .int .i64 j.bound, .int .i64 j.fuel, .slice a l.length c, .int .i64 j.parts] 37) := ⟨_, rfl⟩
  rw [← hW0] at hb0 hB
  obtain ⟨a0, a1, a2, a3, a4, a5, a6⟩ := hB.cells
  have H1 := hidM (isID_any j.id W0)
  have H2 := hidM (way_any j.agg j.bound W0)
  have H3 := hidM (isNumM_any j.fuel 2000 W0)
  have H4 := hidM (rising_anyZ 1 1048576 (.slice a l.length c) l W0 (hn.below hb0) (by omega))
  have H5 := hidM (fun W => mayParts_any j.parts W)
  have HBK := hidM hB
  have HW := hidM hW0.symm
  have HB := hidM hb0
  have A6 := hidM (fun W1 (hb : Below W0.heap.size W0 W1) => (HBK.out.below hb).cells.2.2.2.2.2.2)
  clear hW0 hb0 hB hn
  rw [jobB_page]
  generalize decide (1 ≤ j.id ∧ j.id ≤ 1048576) = b1 at H1
  generalize wayC j.agg j.bound = b2 at H2
  generalize decide (0 ≤ j.fuel ∧ j.fuel ≤ 2000) = b3 at H3
  generalize risL 1 1048576 l = b4 at H4
  generalize mayP j.parts = b5 at H5
  cases b1 with
  | false =>
    go_enter Tryz.func8, Tryz.ntmps8
    go_wp2_with (first
      | (go_at_call 36; rw [HW.out]; refine H1.out.mono ?_; rintro e W1 ⟨rfl, hw1⟩; subst W1)
      | (go_at_call 37; refine H2.out.mono ?_; rintro e W1 ⟨rfl, hw1⟩; subst W1)
      | (go_at_call 38; refine H3.out.mono ?_; rintro e W1 ⟨rfl, hw1⟩; subst W1)
      | (go_at_call 28; refine H4.out.mono ?_; rintro e W1 ⟨rfl, hd1⟩; have hb1 := hd1.below W0.heap.size; have a6' := A6.out W1 hb1)
      | (go_at_call 39; refine (H5.out _).mono ?_; rintro e W2 ⟨rfl, hw2⟩; subst W2))
    go_ret
    exact ⟨rfl, HB.out⟩
  | true =>
    by_cases hc1 : j.prog.size ≤ 512
    · have dp : decide ((j.prog.size : Int) ≤ 512) = true := decide_eq_true (by omega)
      rw [decide_eq_true hc1]
      cases b2 with
      | false =>
        go_enter Tryz.func8, Tryz.ntmps8
        go_wp2_with (first
          | (go_at_call 36; rw [HW.out]; refine H1.out.mono ?_; rintro e W1 ⟨rfl, hw1⟩; subst W1)
          | (go_at_call 37; refine H2.out.mono ?_; rintro e W1 ⟨rfl, hw1⟩; subst W1)
          | (go_at_call 38; refine H3.out.mono ?_; rintro e W1 ⟨rfl, hw1⟩; subst W1)
          | (go_at_call 28; refine H4.out.mono ?_; rintro e W1 ⟨rfl, hd1⟩; have hb1 := hd1.below W0.heap.size; have a6' := A6.out W1 hb1)
          | (go_at_call 39; refine (H5.out _).mono ?_; rintro e W2 ⟨rfl, hw2⟩; subst W2))
        go_ret
        exact ⟨rfl, HB.out⟩
      | true =>
        cases b3 with
        | false =>
          go_enter Tryz.func8, Tryz.ntmps8
          go_wp2_with (first
            | (go_at_call 36; rw [HW.out]; refine H1.out.mono ?_; rintro e W1 ⟨rfl, hw1⟩; subst W1)
            | (go_at_call 37; refine H2.out.mono ?_; rintro e W1 ⟨rfl, hw1⟩; subst W1)
            | (go_at_call 38; refine H3.out.mono ?_; rintro e W1 ⟨rfl, hw1⟩; subst W1)
            | (go_at_call 28; refine H4.out.mono ?_; rintro e W1 ⟨rfl, hd1⟩; have hb1 := hd1.below W0.heap.size; have a6' := A6.out W1 hb1)
            | (go_at_call 39; refine (H5.out _).mono ?_; rintro e W2 ⟨rfl, hw2⟩; subst W2))
          go_ret
          exact ⟨rfl, HB.out⟩
        | true =>
          by_cases hc4 : 1 ≤ l.length
          · have dl : decide ((1 : Int) ≤ (l.length : Int)) = true := decide_eq_true (by omega)
            by_cases hc5 : l.length ≤ 6
            · have dm : decide ((l.length : Int) ≤ 6) = true := decide_eq_true (by omega)
              rw [decide_eq_true (show 1 ≤ l.length ∧ l.length ≤ 6 from ⟨hc4, hc5⟩)]
              cases b4 with
              | false =>
                go_enter Tryz.func8, Tryz.ntmps8
                go_wp2_with (first
                  | (go_at_call 36; rw [HW.out]; refine H1.out.mono ?_; rintro e W1 ⟨rfl, hw1⟩; subst W1)
                  | (go_at_call 37; refine H2.out.mono ?_; rintro e W1 ⟨rfl, hw1⟩; subst W1)
                  | (go_at_call 38; refine H3.out.mono ?_; rintro e W1 ⟨rfl, hw1⟩; subst W1)
                  | (go_at_call 28; refine H4.out.mono ?_; rintro e W1 ⟨rfl, hd1⟩; have hb1 := hd1.below W0.heap.size; have a6' := A6.out W1 hb1)
                  | (go_at_call 39; refine (H5.out _).mono ?_; rintro e W2 ⟨rfl, hw2⟩; subst W2))
                go_ret
                exact ⟨rfl, nxt HB.out hb1⟩
              | true =>
                cases b5 with
                | false =>
                  go_enter Tryz.func8, Tryz.ntmps8
                  go_wp2_with (first
                    | (go_at_call 36; rw [HW.out]; refine H1.out.mono ?_; rintro e W1 ⟨rfl, hw1⟩; subst W1)
                    | (go_at_call 37; refine H2.out.mono ?_; rintro e W1 ⟨rfl, hw1⟩; subst W1)
                    | (go_at_call 38; refine H3.out.mono ?_; rintro e W1 ⟨rfl, hw1⟩; subst W1)
                    | (go_at_call 28; refine H4.out.mono ?_; rintro e W1 ⟨rfl, hd1⟩; have hb1 := hd1.below W0.heap.size; have a6' := A6.out W1 hb1)
                    | (go_at_call 39; refine (H5.out _).mono ?_; rintro e W2 ⟨rfl, hw2⟩; subst W2))
                  go_ret
                  exact ⟨rfl, nxt HB.out hb1⟩
                | true =>
                  go_enter Tryz.func8, Tryz.ntmps8
                  go_wp2_with (first
                    | (go_at_call 36; rw [HW.out]; refine H1.out.mono ?_; rintro e W1 ⟨rfl, hw1⟩; subst W1)
                    | (go_at_call 37; refine H2.out.mono ?_; rintro e W1 ⟨rfl, hw1⟩; subst W1)
                    | (go_at_call 38; refine H3.out.mono ?_; rintro e W1 ⟨rfl, hw1⟩; subst W1)
                    | (go_at_call 28; refine H4.out.mono ?_; rintro e W1 ⟨rfl, hd1⟩; have hb1 := hd1.below W0.heap.size; have a6' := A6.out W1 hb1)
                    | (go_at_call 39; refine (H5.out _).mono ?_; rintro e W2 ⟨rfl, hw2⟩; subst W2))
                  go_ret
                  exact ⟨rfl, nxt HB.out hb1⟩
            · have dm : decide ((l.length : Int) ≤ 6) = false := decide_eq_false (by omega)
              rw [decide_eq_false (show ¬ (1 ≤ l.length ∧ l.length ≤ 6) by omega)]
              go_enter Tryz.func8, Tryz.ntmps8
              go_wp2_with (first
                | (go_at_call 36; rw [HW.out]; refine H1.out.mono ?_; rintro e W1 ⟨rfl, hw1⟩; subst W1)
                | (go_at_call 37; refine H2.out.mono ?_; rintro e W1 ⟨rfl, hw1⟩; subst W1)
                | (go_at_call 38; refine H3.out.mono ?_; rintro e W1 ⟨rfl, hw1⟩; subst W1)
                | (go_at_call 28; refine H4.out.mono ?_; rintro e W1 ⟨rfl, hd1⟩; have hb1 := hd1.below W0.heap.size; have a6' := A6.out W1 hb1)
                | (go_at_call 39; refine (H5.out _).mono ?_; rintro e W2 ⟨rfl, hw2⟩; subst W2))
              go_ret
              exact ⟨rfl, HB.out⟩
          · have dl : decide ((1 : Int) ≤ (l.length : Int)) = false := decide_eq_false (by omega)
            rw [decide_eq_false (show ¬ (1 ≤ l.length ∧ l.length ≤ 6) by omega)]
            go_enter Tryz.func8, Tryz.ntmps8
            go_wp2_with (first
              | (go_at_call 36; rw [HW.out]; refine H1.out.mono ?_; rintro e W1 ⟨rfl, hw1⟩; subst W1)
              | (go_at_call 37; refine H2.out.mono ?_; rintro e W1 ⟨rfl, hw1⟩; subst W1)
              | (go_at_call 38; refine H3.out.mono ?_; rintro e W1 ⟨rfl, hw1⟩; subst W1)
              | (go_at_call 28; refine H4.out.mono ?_; rintro e W1 ⟨rfl, hd1⟩; have hb1 := hd1.below W0.heap.size; have a6' := A6.out W1 hb1)
              | (go_at_call 39; refine (H5.out _).mono ?_; rintro e W2 ⟨rfl, hw2⟩; subst W2))
            go_ret
            exact ⟨rfl, HB.out⟩
    · have dp : decide ((j.prog.size : Int) ≤ 512) = false := decide_eq_false (by omega)
      rw [decide_eq_false hc1]
      go_enter Tryz.func8, Tryz.ntmps8
      go_wp2_with (first
        | (go_at_call 36; rw [HW.out]; refine H1.out.mono ?_; rintro e W1 ⟨rfl, hw1⟩; subst W1)
        | (go_at_call 37; refine H2.out.mono ?_; rintro e W1 ⟨rfl, hw1⟩; subst W1)
        | (go_at_call 38; refine H3.out.mono ?_; rintro e W1 ⟨rfl, hw1⟩; subst W1)
        | (go_at_call 28; refine H4.out.mono ?_; rintro e W1 ⟨rfl, hd1⟩; have hb1 := hd1.below W0.heap.size; have a6' := A6.out W1 hb1)
        | (go_at_call 39; refine (H5.out _).mono ?_; rintro e W2 ⟨rfl, hw2⟩; subst W2))
      go_ret
      exact ⟨rfl, HB.out⟩
end Go.Proofs.YtclcgakfmcofaaaGreatDoor
/- The page's own Bytes of a job. -/
namespace Go.Proofs.YtclcgakfmcofaaaGreatDoor
open Go.RowKit
set_option linter.unusedVariables false
set_option maxRecDepth 100000

theorem num13b_any (n : Int) (w : World) (h : Num64 n) : Calls Tryz.prog 40 #[.int .i64 n] w fun e w' => e = .returned (.string (bytesOf n)) ∧ Below w.heap.size w w' := by
  have H := hidM (rbytes_okM n w (okn_of h.1 h.2))
  go_enter Tryz.func40, Tryz.ntmps40
  go_wp2_with (first
    | (go_at_call 77; refine H.out.mono ?_; rintro e W1 ⟨rfl, hb1⟩))
  go_ret
  exact ⟨rfl, hb1⟩
set_option maxHeartbeats 1600000 in
theorem rjbytes_any (j : Jb) (v : Value) (l : List Int) (w : World) (h : InJ w j v l) (hl : l.length ≤ 6) (hp : j.prog.size ≤ 512) :
    Calls Tryz.prog 9 #[jobV j v] w fun e w' => e = .returned (.string (jobBy j l)) ∧ Below w.heap.size w w' := by
  obtain ⟨a, c, rfl⟩ := h.slice
  have hb0 := stJ w (.cells #[.int .i64 j.id, .string j.prog, .int .i64 j.agg, .int .i64 j.bound, .int .i64 j.fuel, .slice a l.length c, .int .i64 j.parts] 37)
  have hB := Blk7.new w (.int .i64 j.id) (.string j.prog) (.int .i64 j.agg) (.int .i64 j.bound) (.int .i64 j.fuel) (.slice a l.length c) (.int .i64 j.parts)
  obtain ⟨W0, hW0⟩ : ∃ W0 : World, W0 = w.alloc (.cells #[.int .i64 j.id, .string j.prog, .int .i64 j.agg, .int .i64 j.bound, .int .i64 j.fuel, .slice a l.length c, .int .i64 j.parts] 37) := ⟨_, rfl⟩
  rw [← hW0] at hb0 hB
  have HC := hidM (show ∀ W, Below W0.heap.size W0 W → W.cell? ⟨w.heap.size, 0, none⟩ = some (.int .i64 j.id) ∧ W.cell? ⟨w.heap.size, 1, none⟩ = some (.string j.prog) ∧ W.cell? ⟨w.heap.size, 2, none⟩ = some (.int .i64 j.agg) ∧ W.cell? ⟨w.heap.size, 3, none⟩ = some (.int .i64 j.bound) ∧ W.cell? ⟨w.heap.size, 4, none⟩ = some (.int .i64 j.fuel) ∧ W.cell? ⟨w.heap.size, 5, none⟩ = some (.slice a l.length c) ∧ W.cell? ⟨w.heap.size, 6, none⟩ = some (.int .i64 j.parts) ∧ NS W (.slice a l.length c) l from fun W hW => by
    obtain ⟨q0, q1, q2, q3, q4, q5, q6⟩ := (hB.below hW).cells
    exact ⟨q0, q1, q2, q3, q4, q5, q6, (h.ns.below hb0).below hW⟩)
  have HQ := hidM (fun (n : Int) (hn : Num64 n) (W : World) => num13b_any n W hn)
  have n1 := h.id
  have n2 : Num64 (j.prog.size : Int) := ⟨by omega, by omega⟩
  have n3 := h.agg
  have n4 := h.bound
  have n5 := h.fuel
  have n6 : Num64 (l.length : Int) := ⟨by omega, by omega⟩
  have n7 := h.parts
  have HNS := hidM h.nums
  have HW := hidM hW0.symm
  have HB := hidM hb0
  obtain ⟨a0, a1, a2, a3, a4, a5, a6, -⟩ := HC.out W0 (Below.refl _ _)
  obtain ⟨S0, hS0⟩ : ∃ S0 : ByteArray, S0 = bytesOf j.id ++ bytesOf (j.prog.size : Int) ++ j.prog ++ bytesOf j.agg ++ bytesOf j.bound ++ bytesOf j.fuel ++ bytesOf (l.length : Int) := ⟨_, rfl⟩
  have HS0 := hidM hS0
  have HEND := hidM (show S0 ++ numsB l ++ bytesOf j.parts = jobBy j l by
    rw [hS0]
    unfold jobBy
    show _ = (bytesOf _ ++ (bytesOf _ ++ (⟨#[]⟩ : ByteArray))) ++ (j.prog ++ ((bytesOf _ ++ (bytesOf _ ++ (bytesOf _ ++ (bytesOf _ ++ (⟨#[]⟩ : ByteArray))))) ++ (numsB l ++ (bytesOf _ ++ (⟨#[]⟩ : ByteArray)))))
    simp only [app_nil, app_assoc])
  clear hW0 hb0 hB h hS0
  go_enter Tryz.func9, Tryz.ntmps9
  go_wp2_with fail
  rw [HW.out]
  have HCB := hidM (show ∀ W, Below W0.heap.size W0 W → W.cell? ⟨w.heap.size, 0, none⟩ = some (.int .i64 j.id) ∧ W.cell? ⟨w.heap.size, 1, none⟩ = some (.string j.prog) ∧ W.cell? ⟨w.heap.size, 2, none⟩ = some (.int .i64 j.agg) ∧ W.cell? ⟨w.heap.size, 3, none⟩ = some (.int .i64 j.bound) ∧ W.cell? ⟨w.heap.size, 4, none⟩ = some (.int .i64 j.fuel) ∧ W.cell? ⟨w.heap.size, 5, none⟩ = some (.slice a l.length c) ∧ Below W0.heap.size W0 W from fun W hW => by obtain ⟨q0, q1, q2, q3, q4, q5, -⟩ := HC.out W hW; exact ⟨q0, q1, q2, q3, q4, q5, hW⟩)
  have hl1 := bytes_len j.id
  have hl2 := bytes_len (j.prog.size : Int)
  have hl3 := bytes_len j.agg
  have hl4 := bytes_len j.bound
  have hl5 := bytes_len j.fuel
  have hl6 := bytes_len (l.length : Int)
  have hadd1 : ∀ W, (Op.stringOp .add (bytesOf j.id) (bytesOf (j.prog.size : Int))).run Tryz.prog W = .ok (.string (bytesOf j.id ++ bytesOf (j.prog.size : Int))) W := fun W => run_string_add_sum W _ _ (by omega)
  have hadd2 : ∀ W, (Op.stringOp .add (bytesOf j.id ++ bytesOf (j.prog.size : Int)) j.prog).run Tryz.prog W = .ok (.string (bytesOf j.id ++ bytesOf (j.prog.size : Int) ++ j.prog)) W := fun W => run_string_add_sum W _ _ (by rw [ByteArray.size_append]; omega)
  have hadd3 : ∀ W, (Op.stringOp .add (bytesOf j.id ++ bytesOf (j.prog.size : Int) ++ j.prog) (bytesOf j.agg)).run Tryz.prog W = .ok (.string (bytesOf j.id ++ bytesOf (j.prog.size : Int) ++ j.prog ++ bytesOf j.agg)) W := fun W => run_string_add_sum W _ _ (by simp only [ByteArray.size_append]; omega)
  have hadd4 : ∀ W, (Op.stringOp .add (bytesOf j.id ++ bytesOf (j.prog.size : Int) ++ j.prog ++ bytesOf j.agg) (bytesOf j.bound)).run Tryz.prog W = .ok (.string (bytesOf j.id ++ bytesOf (j.prog.size : Int) ++ j.prog ++ bytesOf j.agg ++ bytesOf j.bound)) W := fun W => run_string_add_sum W _ _ (by simp only [ByteArray.size_append]; omega)
  have hadd5 : ∀ W, (Op.stringOp .add (bytesOf j.id ++ bytesOf (j.prog.size : Int) ++ j.prog ++ bytesOf j.agg ++ bytesOf j.bound) (bytesOf j.fuel)).run Tryz.prog W = .ok (.string (bytesOf j.id ++ bytesOf (j.prog.size : Int) ++ j.prog ++ bytesOf j.agg ++ bytesOf j.bound ++ bytesOf j.fuel)) W := fun W => run_string_add_sum W _ _ (by simp only [ByteArray.size_append]; omega)
  have hadd6 : ∀ W, (Op.stringOp .add (bytesOf j.id ++ bytesOf (j.prog.size : Int) ++ j.prog ++ bytesOf j.agg ++ bytesOf j.bound ++ bytesOf j.fuel) (bytesOf (l.length : Int))).run Tryz.prog W = .ok (.string S0) W := fun W => by rw [HS0.out]; exact run_string_add_sum W _ _ (by simp only [ByteArray.size_append]; omega)
  have HKP := hidM (fun (W W' : World) (hn : W.cell? ⟨w.heap.size, 0, none⟩ = some (.int .i64 j.id) ∧ W.cell? ⟨w.heap.size, 1, none⟩ = some (.string j.prog) ∧ W.cell? ⟨w.heap.size, 2, none⟩ = some (.int .i64 j.agg) ∧ W.cell? ⟨w.heap.size, 3, none⟩ = some (.int .i64 j.bound) ∧ W.cell? ⟨w.heap.size, 4, none⟩ = some (.int .i64 j.fuel) ∧ W.cell? ⟨w.heap.size, 5, none⟩ = some (.slice a l.length c) ∧ Below W0.heap.size W0 W) (hb : Below W.heap.size W W') => HCB.out W' (nxt hn.2.2.2.2.2.2 hb))
  have hs0 : S0.size ≤ 600 := by rw [HS0.out]; simp only [ByteArray.size_append]; omega
  clear hl1 hl2 hl3 hl4 hl5 hl6
  go_region_held3 (fun W => W.cell? ⟨w.heap.size, 0, none⟩ = some (.int .i64 j.id) ∧ W.cell? ⟨w.heap.size, 1, none⟩ = some (.string j.prog) ∧ W.cell? ⟨w.heap.size, 2, none⟩ = some (.int .i64 j.agg) ∧ W.cell? ⟨w.heap.size, 3, none⟩ = some (.int .i64 j.bound) ∧ W.cell? ⟨w.heap.size, 4, none⟩ = some (.int .i64 j.fuel) ∧ W.cell? ⟨w.heap.size, 5, none⟩ = some (.slice a l.length c) ∧ Below W0.heap.size W0 W)
    (first | with_reducible exact HKP.out _ _ (by assumption) (by assumption) | with_reducible exact HCB.out _ (Below.refl _ _).drew)
    (first | (go_at_call 40; refine (HQ.out _ (by assumption) _).mono ?_; rintro e w' ⟨rfl, hb2⟩))
  all_goals obtain ⟨_, _, _, _, _, _, hbelW⟩ := ‹_ ∧ _ ∧ _ ∧ _ ∧ _ ∧ _ ∧ Below W0.heap.size W0 _›
  have HBL := hidM hbelW
  clear a0 a1 a2 a3 a4 a5 a6 hadd1 hadd2 hadd3 hadd4 hadd5 hadd6 hbelW HKP HCB
  go_wp2
  go_loopw [3, 4] (fun u i wr => ∃ k : Nat, k ≤ l.length ∧ i = .int .i64 k ∧ u = .string (S0 ++ numsB (l.take k)) ∧ Below W0.heap.size W0 wr) (fun _ i _ => l.length - (intOf i).toNat)
  case atStart => exact ⟨0, by omega, rfl, by rw [List.take_zero]; show _ = Value.string (S0 ++ (⟨#[]⟩ : ByteArray)); rw [app_nil], HBL.out⟩
  case round =>
    rename World => w0
    obtain ⟨k, hk, rfl, rfl, hbel⟩ := hrel
    obtain ⟨b0, b1, b2, b3, b4, b5, b6, hns⟩ := HC.out w0 hbel
    have HBEL := hidM hbel
    have hsz := numsB_size (l.take k)
    rw [List.length_take, Nat.min_eq_left hk] at hsz
    by_cases hlt : k < l.length
    · obtain ⟨x, hx⟩ := getSome hlt
      obtain ⟨a', cap', e, hsh⟩ := hns
      injection e with e1 e2 e3
      subst e1
      rcases hsh with hnil | ⟨bb, off, rfl, hbb, hat⟩
      · rw [hnil] at hlt; simp at hlt
      have d0 := hat k x hx
      have hki : (k : Int) < (l.length : Int) := by omega
      have hk0 : (0 : Int) ≤ (k : Int) := by omega
      have hxn := HNS.out x (List.mem_of_getElem? hx)
      have hxl := bytes_len x
      have e4 : S0 ++ numsB (l.take (k + 1)) = (S0 ++ numsB (l.take k)) ++ bytesOf x := by
        rw [List.take_add_one, hx]
        show S0 ++ numsB (l.take k ++ [x]) = _
        rw [numsB_snoc, app_assoc]
      have HE4 := hidM e4
      have HAD := hidM (show ∀ W, (Op.stringOp .add (S0 ++ numsB (l.take k)) (bytesOf x)).run Tryz.prog W = .ok (.string (S0 ++ numsB (l.take (k + 1)))) W from fun W => by rw [e4]; exact run_string_add_sum W _ _ (by simp only [ByteArray.size_append]; omega))
      generalize hS1 : S0 ++ numsB (l.take k) = S1 at HAD
      generalize hS2 : S0 ++ numsB (l.take (k + 1)) = S2 at HAD
      have hadd := HAD.out
      have HS2 := hidM hS2
      clear hat hx e4 HE4 hS1 hS2 hxl hsz e2 e3 hbel b0 b1 b2 b3 b4 b6 HAD
      go_wp2_with (first
        | (go_at_call 40; refine (HQ.out _ hxn _).mono ?_; rintro e W1 ⟨rfl, hb1⟩))
      go_roundw
      case rel => exact ⟨k + 1, by omega, by go_num, by rw [HS2.out], nxt HBEL.out hb1⟩
      case measure => simp [intOf]; omega
    · have hki : ¬ (k : Int) < (l.length : Int) := by omega
      have e5 : l.take k = l := List.take_of_length_le (by omega)
      rw [e5] at hsz ⊢
      have hpl := bytes_len j.parts
      have HAD := hidM (show ∀ W, (Op.stringOp .add (S0 ++ numsB l) (bytesOf j.parts)).run Tryz.prog W = .ok (.string (jobBy j l)) W from fun W => by rw [← HEND.out]; exact run_string_add_sum W _ _ (by simp only [ByteArray.size_append]; omega))
      generalize hS1 : S0 ++ numsB l = S1 at HAD ⊢
      have hadd := HAD.out
      clear HAD hS1 hpl hsz e5 hns hbel b0 b1 b2 b3 b4
      go_wp2_with (first
        | (go_at_call 40; refine (HQ.out _ n7 _).mono ?_; rintro e W1 ⟨rfl, hb1⟩))
      go_ret
      exact ⟨rfl, nxt HB.out (nxt HBEL.out hb1)⟩
end Go.Proofs.YtclcgakfmcofaaaGreatDoor
/- job.Take. -/
namespace Go.Proofs.YtclcgakfmcofaaaGreatDoor
open Go.RowKit
set_option linter.unusedVariables false
set_option maxRecDepth 100000

theorem jtake_e (s : ByteArray) : ∃ a p g b f z k q, a = jrI (s, 0) ∧ p = jrX a.2 ∧ g = jrI p.2 ∧ b = jrI g.2 ∧ f = jrI b.2 ∧ z = jrZ 6 f.2 ∧ k = jrK z.1.toNat z.2 [] ∧ q = jrI k.2 ∧ jTake s = jEnd ⟨a.1, p.1, g.1, b.1, f.1, q.1⟩ k.1 q.2 := ⟨_, _, _, _, _, _, _, _, rfl, rfl, rfl, rfl, rfl, rfl, rfl, rfl, rfl⟩
set_option maxHeartbeats 3200000 in
theorem jtake_any (s : ByteArray) (w : World) (hs : s.size ≤ 100000) : Calls Tryz.prog 12 #[.string s] w (JTR w (jTake s)) := by
  obtain ⟨a, p, g, b, f, z, k, q, ha, hp, hg, hb, hf, hz, hk, hq, hE⟩ := jtake_e s
  rw [hE]
  have HA := hidM ha
  have HP := hidM hp
  have HG := hidM hg
  have HBB := hidM hb
  have HFF := hidM hf
  have HZ := hidM hz
  have HK := hidM hk
  have HQ := hidM hq
  clear ha hp hg hb hf hz hk hq
  have h0 := JT.start 85 w s hs
  obtain ⟨W0, hW0⟩ : ∃ W0 : World, W0 = ((w.alloc (.cells #[.int .i64 0, .string ⟨#[]⟩, .int .i64 0, .int .i64 0, .int .i64 0, .slice none 0 0, .int .i64 0] 37)).alloc (.cells #[.string s, .int .i64 0] 85)).alloc (.cells #[.int .i64 0, .string ⟨#[]⟩, .int .i64 0, .int .i64 0, .int .i64 0, .slice none 0 0, .int .i64 0] 37) := ⟨_, rfl⟩
  rw [← hW0] at h0
  have HW := hidM hW0.symm
  have H0 := hidM h0
  have HNUM := hidM (fun (W : World) (s : Rd) (j : Jb) (u : Value) (h : JT 85 w W s j u) (t : Int × Rd) (ht : t = jrI s) => (jnumber_any (w.heap.size + 1) s W h.r h.sz).mono (fun e W' (hp : NumP 85 W (w.heap.size + 1) (jrI s) e W') => (⟨by rw [ht]; exact hp.1, by rw [ht]; exact h.call hp.2.1 hp.2.2 (jrI_size s), hp.2.2⟩ : e = .returned (.int .i64 t.1) ∧ JT 85 w W' t.2 j u ∧ W.grownBy W' (some (w.heap.size + 1)))))
  have HSIZ := hidM (fun (W : World) (s : Rd) (j : Jb) (u : Value) (h : JT 85 w W s j u) (t : Int × Rd) (ht : t = jrZ 6 s) => (jsize_any (w.heap.size + 1) 6 s W h.r h.sz).mono (fun e W' (hp : NumP 85 W (w.heap.size + 1) (jrZ 6 s) e W') => (⟨by rw [ht]; exact hp.1, by rw [ht]; exact h.call hp.2.1 hp.2.2 (jrZ_bd (by decide) s).2.2⟩ : e = .returned (.int .i64 t.1) ∧ JT 85 w W' t.2 j u)))
  have HTXT := hidM (fun (W : World) (s : Rd) (j : Jb) (u : Value) (h : JT 85 w W s j u) (t : ByteArray × Rd) (ht : t = jrX s) => (jtext_any (w.heap.size + 1) s W h.r h.sz).mono (fun e W' (hp : TxtP 85 W (w.heap.size + 1) (jrX s) e W') => (⟨by rw [ht]; exact hp.1, by rw [ht]; exact h.call hp.2.1 hp.2.2 (jrX_size s)⟩ : e = .returned (.string t.1) ∧ JT 85 w W' t.2 j u)))
  clear hW0 h0 hE
  go_enter Tryz.func12, Tryz.ntmps12
  go_wp2_with fail
  rw [HW.out]
  refine (HNUM.out W0 (s, 0) j00 (.slice none 0 0) H0.out a HA.out).mono ?_
  rintro e W1 ⟨rfl, h1, -⟩
  have c0 := h1.facts.c0
  have f0 := h1.facts.f 0
  have H1 := hidM (h1.set0 a.1)
  clear h1 H0
  go_wp2_with fail
  refine (HTXT.out _ a.2 _ _ H1.out p HP.out).mono ?_
  rintro e W2 ⟨rfl, h2⟩
  have c1 := h2.facts.c1
  have f1 := h2.facts.f 1
  have H2 := hidM (h2.set1 p.1)
  clear h2 H1 c0 f0
  go_wp2_with fail
  refine (HNUM.out _ p.2 _ _ H2.out g HG.out).mono ?_
  rintro e W3 ⟨rfl, h3, -⟩
  have c2 := h3.facts.c2
  have f2 := h3.facts.f 2
  have H3 := hidM (h3.set2 g.1)
  clear h3 H2 c1 f1
  go_wp2_with fail
  refine (HNUM.out _ g.2 _ _ H3.out b HBB.out).mono ?_
  rintro e W4 ⟨rfl, h4, -⟩
  have c3 := h4.facts.c3
  have f3 := h4.facts.f 3
  have H4 := hidM (h4.set3 b.1)
  clear h4 H3 c2 f2
  go_wp2_with fail
  refine (HNUM.out _ b.2 _ _ H4.out f HFF.out).mono ?_
  rintro e W5 ⟨rfl, h5, -⟩
  have c4 := h5.facts.c4
  have f4 := h5.facts.f 4
  have H5 := hidM (h5.set4 f.1)
  clear h5 H4 c3 f3
  go_wp2_with fail
  refine (HSIZ.out _ f.2 _ _ H5.out z HZ.out).mono ?_
  rintro e W6 ⟨rfl, h6⟩
  have H6 := hidM h6
  clear h6 H5 c4 f4
  have hz1 := (jrZ_bd (m := 6) (by decide) f.2).1
  have hz2 := (jrZ_bd (m := 6) (by decide) f.2).2.1
  rw [← HZ.out] at hz1 hz2
  obtain ⟨n, hn⟩ : ∃ n : Nat, z.1 = (n : Int) := ⟨z.1.toNat, by omega⟩
  rw [hn] at hz1 hz2 ⊢
  have HK2 : Hid (k = jrK n z.2 []) := hidM (by have := HK.out; rwa [hn, Int.toNat_natCast] at this)
  have hn6 : n ≤ 6 := by omega
  clear hz1 hz2 hn HK
  obtain ⟨J, hJ⟩ : ∃ J : Jb, J = ⟨a.1, p.1, g.1, b.1, f.1, 0⟩ := ⟨_, rfl⟩
  have H6' : Hid (JT 85 w W6 z.2 J (.slice none 0 0)) := by rw [hJ]; exact H6
  have HJJ := hidM hJ
  clear H6 hJ
  go_wp2
  go_loopw [26] (fun i wr => ∃ m : Nat, m ≤ n ∧ i = .int .i64 m ∧ ∃ u, Hid (JT 85 w wr (jrK m z.2 []).2 J u) ∧ Hid (OwnN wr (w.heap.size + 3) u (jrK m z.2 []).1)) (fun i _ => n - (intOf i).toNat)
  case atStart => exact ⟨0, by omega, rfl, _, H6', hidM (World.ownsRow_nil _ _ _ _)⟩
  case round =>
    rename World => w0
    obtain ⟨m, hm, rfl, u, HJ, HO⟩ := hrel
    by_cases hlt : m < n
    · have hki : (m : Int) < (n : Int) := by omega
      have HLEN := hidM (show (jrK m z.2 []).1.length ≤ 1000 by rw [jrK_len]; simp; omega)
      have HS := jrK_snoc m z.2 []
      obtain ⟨t, ht⟩ : ∃ t, t = jrI (jrK m z.2 []).2 := ⟨_, rfl⟩
      rw [← ht] at HS
      have HS1 := hidM (show (jrK (m + 1) z.2 []).2 = t.2 by rw [HS])
      have HS2 := hidM (show (jrK (m + 1) z.2 []).1 = (jrK m z.2 []).1 ++ [t.1] by rw [HS])
      have HT := hidM ht
      clear HS ht
      obtain ⟨ua, um, uc, rfl⟩ : ∃ ua um uc, u = .slice ua um uc := by obtain ⟨a, c, e⟩ := HO.out.shape; exact ⟨_, _, _, e⟩
      have c5 := HJ.out.facts.c5
      generalize (jrK m z.2 []).1 = lm at HO HLEN HS2
      generalize (jrK m z.2 []).2 = sm at HJ HT
      have HJD := hidM (HJ.out.below (Below.refl _ _).drew)
      have HOD := hidM (HO.out.below (Below.refl _ _).drew)
      go_wp2_with fail
      refine wp_region_any (by kernel_rfl) ?_
      change wpAny _ _ _ _ _ _ _ (World.drew _)
      refine wpAny_take (i := 0) (oi := { dst := some 28, op := Go.Op.fieldAddr 37 (Go.Operand.tmp 5) 5, type := 0, pos := "job.go:75", after := #[], guard := none }) (v := ?v0y1) rfl (by kernel_rfl) (by kernel_rfl) (by kernel_rfl) (fun _ _ _ h => h) (Or.inl ⟨by rfl, ?h0y1⟩) ?r0y1
      case h0y1 => (intro W; go_simp; try with_reducible rfl)
      simp only [Act.put, List.setIfInBounds_toArray, List.set_cons_zero, List.set_cons_succ]
      refine wpAny_take (i := 2) (oi := { dst := some 30, op := Go.Op.move (Go.Operand.tmp 4), type := 83, pos := "job.go:75", after := #[], guard := none }) (v := ?v2y2) rfl (by kernel_rfl) (by kernel_rfl) (by kernel_rfl) (fun _ _ _ h => h) (Or.inl ⟨by rfl, ?h2y2⟩) ?r2y2
      case h2y2 => (intro W; go_simp; try with_reducible rfl)
      simp only [Act.put, List.setIfInBounds_toArray, List.set_cons_zero, List.set_cons_succ]
      refine wpAny_ready (rs := [1, 3]) (by kernel_rfl) (by simp) ?_
      refine AllReady.cons (o := { dst := some 29, op := Go.Op.load 25 (Go.Operand.tmp 28), type := 25, pos := "job.go:75", after := #[{ on := 0, ground := Go.Ground.data }], guard := none }) rfl (fun K hK => ?_) (AllReady.cons (o := { dst := some 31, op := Go.Op.call { callee := Go.Callee.value (Go.Operand.func 44), args := #[Go.Operand.tmp 30], argTypes := #[83] }, type := 3, pos := "job.go:75", after := #[{ on := 2, ground := Go.Ground.data }], guard := none }) rfl (fun K hK => ?_) AllReady.nil)
      · go_simp
        refine hK _ _ ?_
        clear hK K
        try simp only [Act.put, List.setIfInBounds_toArray, List.set_cons_zero, List.set_cons_succ]
        refine wpAny_ready (rs := [3]) (by kernel_rfl) (by simp) ?_
        refine AllReady.cons (o := { dst := some 31, op := Go.Op.call { callee := Go.Callee.value (Go.Operand.func 44), args := #[Go.Operand.tmp 30], argTypes := #[83] }, type := 3, pos := "job.go:75", after := #[{ on := 2, ground := Go.Ground.data }], guard := none }) rfl (fun K hK => ?_) AllReady.nil
        go_simp
        refine (HNUM.out w0.drew _ _ _ HJD.out t HT.out).mono ?_
        rintro e W2 ⟨rfl, h2, hg2⟩
        have o2 := HOD.out.grown hg2 (by omega)
        obtain ⟨v4, W4, hap, hfz, ⟨u5, hu5⟩, ⟨va4, vm4, vc4, rfl⟩, h4, o4⟩ := h2.push (n := t.1) o2 HLEN.out
        have d5 := h2.facts.c5
        have dA := (h2.below (stJ W2 (.cells #[.int .i64 t.1] 3))).facts.c5
        have HJ4 := hidM h4
        have HO4 := hidM o4
        have HAP := hidM hap
        clear h4 o4 hap h2 hg2 o2
        refine hK _ _ ?_
        clear hK K
        try simp only [Act.put, List.setIfInBounds_toArray, List.set_cons_zero, List.set_cons_succ]
        refine wpAny_ready (rs := [4]) (by kernel_rfl) (by simp) ?_
        refine AllReady.cons (o := { dst := some 32, op := Go.Op.buildSlice 25 1 #[(0, Go.Operand.tmp 31)], type := 25, pos := "job.go:75", after := #[{ on := 3, ground := Go.Ground.data }], guard := none }) rfl (fun K hK => ?_) AllReady.nil
        go_simp
        refine hK _ _ ?_
        clear hK K
        try simp only [Act.put, List.setIfInBounds_toArray, List.set_cons_zero, List.set_cons_succ]
        refine wpAny_ready (rs := [5]) (by kernel_rfl) (by simp) ?_
        refine AllReady.cons (o := { dst := some 33, op := Go.Op.call { callee := Go.Callee.builtin Go.Builtin.append, args := #[Go.Operand.tmp 29, Go.Operand.tmp 32], argTypes := #[25, 25] }, type := 25, pos := "job.go:75", after := #[{ on := 1, ground := Go.Ground.data }, { on := 4, ground := Go.Ground.data }, { on := 3, ground := Go.Ground.chain }], guard := none }) rfl (fun K hK => ?_) AllReady.nil
        refine step_append_run _ rfl _ _ _ rfl (.slice ua um uc) _ _ W4 rfl rfl HAP.out ?_
        refine hK _ _ ?_
        clear hK K
        try simp only [Act.put, List.setIfInBounds_toArray, List.set_cons_zero, List.set_cons_succ]
        refine wpAny_take (i := 6) (oi := { dst := some 34, op := Go.Op.fieldAddr 37 (Go.Operand.tmp 5) 5, type := 0, pos := "job.go:75", after := #[{ on := 0, ground := Go.Ground.phase }, { on := 1, ground := Go.Ground.phase }, { on := 2, ground := Go.Ground.phase }, { on := 3, ground := Go.Ground.phase }, { on := 4, ground := Go.Ground.phase }, { on := 5, ground := Go.Ground.phase }], guard := none }) (v := ?v6y3) rfl (by kernel_rfl) (by kernel_rfl) (by kernel_rfl) (fun _ _ _ h => h) (Or.inl ⟨by rfl, ?h6y3⟩) ?r6y3
        case h6y3 => (intro W; go_simp; try with_reducible rfl)
        simp only [Act.put, List.setIfInBounds_toArray, List.set_cons_zero, List.set_cons_succ]
        refine wpAny_ready (rs := [7]) (by kernel_rfl) (by simp) ?_
        refine AllReady.cons (o := { dst := none, op := Go.Op.store 25 (Go.Operand.tmp 34) (Go.Operand.tmp 33), type := 0, pos := "job.go:75", after := #[{ on := 6, ground := Go.Ground.data }, { on := 5, ground := Go.Ground.data }, { on := 5, ground := Go.Ground.chain }, { on := 0, ground := Go.Ground.phase }, { on := 1, ground := Go.Ground.phase }, { on := 2, ground := Go.Ground.phase }, { on := 3, ground := Go.Ground.phase }, { on := 4, ground := Go.Ground.phase }, { on := 5, ground := Go.Ground.phase }], guard := none }) rfl (fun K hK => ?_) AllReady.nil
        go_simp
        refine hK _ _ ?_
        clear hK K
        try simp only [Act.put, List.setIfInBounds_toArray, List.set_cons_zero, List.set_cons_succ]
        refine wpAny_done (by kernel_rfl) ?_ _
        go_wp2
        go_roundw
        case rel => exact ⟨m + 1, by omega, by go_num, _, hidM (by rw [HS1.out]; exact HJ4.out), hidM (by rw [HS2.out]; exact HO4.out)⟩
        case measure => simp [intOf]; omega
      · go_simp
        refine (HNUM.out w0.drew _ _ _ HJD.out t HT.out).mono ?_
        rintro e W2 ⟨rfl, h2, hg2⟩
        have o2 := HOD.out.grown hg2 (by omega)
        obtain ⟨v4, W4, hap, hfz, ⟨u5, hu5⟩, ⟨va4, vm4, vc4, rfl⟩, h4, o4⟩ := h2.push (n := t.1) o2 HLEN.out
        have d5 := h2.facts.c5
        have dA := (h2.below (stJ W2 (.cells #[.int .i64 t.1] 3))).facts.c5
        have HJ4 := hidM h4
        have HO4 := hidM o4
        have HAP := hidM hap
        clear h4 o4 hap h2 hg2 o2
        refine hK _ _ ?_
        clear hK K
        try simp only [Act.put, List.setIfInBounds_toArray, List.set_cons_zero, List.set_cons_succ]
        refine wpAny_ready (rs := [1, 4]) (by kernel_rfl) (by simp) ?_
        refine AllReady.cons (o := { dst := some 29, op := Go.Op.load 25 (Go.Operand.tmp 28), type := 25, pos := "job.go:75", after := #[{ on := 0, ground := Go.Ground.data }], guard := none }) rfl (fun K hK => ?_) (AllReady.cons (o := { dst := some 32, op := Go.Op.buildSlice 25 1 #[(0, Go.Operand.tmp 31)], type := 25, pos := "job.go:75", after := #[{ on := 3, ground := Go.Ground.data }], guard := none }) rfl (fun K hK => ?_) AllReady.nil)
        · go_simp
          refine hK _ _ ?_
          clear hK K
          try simp only [Act.put, List.setIfInBounds_toArray, List.set_cons_zero, List.set_cons_succ]
          refine wpAny_ready (rs := [4]) (by kernel_rfl) (by simp) ?_
          refine AllReady.cons (o := { dst := some 32, op := Go.Op.buildSlice 25 1 #[(0, Go.Operand.tmp 31)], type := 25, pos := "job.go:75", after := #[{ on := 3, ground := Go.Ground.data }], guard := none }) rfl (fun K hK => ?_) AllReady.nil
          go_simp
          refine hK _ _ ?_
          clear hK K
          try simp only [Act.put, List.setIfInBounds_toArray, List.set_cons_zero, List.set_cons_succ]
          refine wpAny_ready (rs := [5]) (by kernel_rfl) (by simp) ?_
          refine AllReady.cons (o := { dst := some 33, op := Go.Op.call { callee := Go.Callee.builtin Go.Builtin.append, args := #[Go.Operand.tmp 29, Go.Operand.tmp 32], argTypes := #[25, 25] }, type := 25, pos := "job.go:75", after := #[{ on := 1, ground := Go.Ground.data }, { on := 4, ground := Go.Ground.data }, { on := 3, ground := Go.Ground.chain }], guard := none }) rfl (fun K hK => ?_) AllReady.nil
          refine step_append_run _ rfl _ _ _ rfl (.slice ua um uc) _ _ W4 rfl rfl HAP.out ?_
          refine hK _ _ ?_
          clear hK K
          try simp only [Act.put, List.setIfInBounds_toArray, List.set_cons_zero, List.set_cons_succ]
          refine wpAny_take (i := 6) (oi := { dst := some 34, op := Go.Op.fieldAddr 37 (Go.Operand.tmp 5) 5, type := 0, pos := "job.go:75", after := #[{ on := 0, ground := Go.Ground.phase }, { on := 1, ground := Go.Ground.phase }, { on := 2, ground := Go.Ground.phase }, { on := 3, ground := Go.Ground.phase }, { on := 4, ground := Go.Ground.phase }, { on := 5, ground := Go.Ground.phase }], guard := none }) (v := ?v6y4) rfl (by kernel_rfl) (by kernel_rfl) (by kernel_rfl) (fun _ _ _ h => h) (Or.inl ⟨by rfl, ?h6y4⟩) ?r6y4
          case h6y4 => (intro W; go_simp; try with_reducible rfl)
          simp only [Act.put, List.setIfInBounds_toArray, List.set_cons_zero, List.set_cons_succ]
          refine wpAny_ready (rs := [7]) (by kernel_rfl) (by simp) ?_
          refine AllReady.cons (o := { dst := none, op := Go.Op.store 25 (Go.Operand.tmp 34) (Go.Operand.tmp 33), type := 0, pos := "job.go:75", after := #[{ on := 6, ground := Go.Ground.data }, { on := 5, ground := Go.Ground.data }, { on := 5, ground := Go.Ground.chain }, { on := 0, ground := Go.Ground.phase }, { on := 1, ground := Go.Ground.phase }, { on := 2, ground := Go.Ground.phase }, { on := 3, ground := Go.Ground.phase }, { on := 4, ground := Go.Ground.phase }, { on := 5, ground := Go.Ground.phase }], guard := none }) rfl (fun K hK => ?_) AllReady.nil
          go_simp
          refine hK _ _ ?_
          clear hK K
          try simp only [Act.put, List.setIfInBounds_toArray, List.set_cons_zero, List.set_cons_succ]
          refine wpAny_done (by kernel_rfl) ?_ _
          go_wp2
          go_roundw
          case rel => exact ⟨m + 1, by omega, by go_num, _, hidM (by rw [HS1.out]; exact HJ4.out), hidM (by rw [HS2.out]; exact HO4.out)⟩
          case measure => simp [intOf]; omega
        · go_simp
          refine hK _ _ ?_
          clear hK K
          try simp only [Act.put, List.setIfInBounds_toArray, List.set_cons_zero, List.set_cons_succ]
          refine wpAny_ready (rs := [1]) (by kernel_rfl) (by simp) ?_
          refine AllReady.cons (o := { dst := some 29, op := Go.Op.load 25 (Go.Operand.tmp 28), type := 25, pos := "job.go:75", after := #[{ on := 0, ground := Go.Ground.data }], guard := none }) rfl (fun K hK => ?_) AllReady.nil
          go_simp
          refine hK _ _ ?_
          clear hK K
          try simp only [Act.put, List.setIfInBounds_toArray, List.set_cons_zero, List.set_cons_succ]
          refine wpAny_ready (rs := [5]) (by kernel_rfl) (by simp) ?_
          refine AllReady.cons (o := { dst := some 33, op := Go.Op.call { callee := Go.Callee.builtin Go.Builtin.append, args := #[Go.Operand.tmp 29, Go.Operand.tmp 32], argTypes := #[25, 25] }, type := 25, pos := "job.go:75", after := #[{ on := 1, ground := Go.Ground.data }, { on := 4, ground := Go.Ground.data }, { on := 3, ground := Go.Ground.chain }], guard := none }) rfl (fun K hK => ?_) AllReady.nil
          refine step_append_run _ rfl _ _ _ rfl (.slice ua um uc) _ _ W4 rfl rfl HAP.out ?_
          refine hK _ _ ?_
          clear hK K
          try simp only [Act.put, List.setIfInBounds_toArray, List.set_cons_zero, List.set_cons_succ]
          refine wpAny_take (i := 6) (oi := { dst := some 34, op := Go.Op.fieldAddr 37 (Go.Operand.tmp 5) 5, type := 0, pos := "job.go:75", after := #[{ on := 0, ground := Go.Ground.phase }, { on := 1, ground := Go.Ground.phase }, { on := 2, ground := Go.Ground.phase }, { on := 3, ground := Go.Ground.phase }, { on := 4, ground := Go.Ground.phase }, { on := 5, ground := Go.Ground.phase }], guard := none }) (v := ?v6y5) rfl (by kernel_rfl) (by kernel_rfl) (by kernel_rfl) (fun _ _ _ h => h) (Or.inl ⟨by rfl, ?h6y5⟩) ?r6y5
          case h6y5 => (intro W; go_simp; try with_reducible rfl)
          simp only [Act.put, List.setIfInBounds_toArray, List.set_cons_zero, List.set_cons_succ]
          refine wpAny_ready (rs := [7]) (by kernel_rfl) (by simp) ?_
          refine AllReady.cons (o := { dst := none, op := Go.Op.store 25 (Go.Operand.tmp 34) (Go.Operand.tmp 33), type := 0, pos := "job.go:75", after := #[{ on := 6, ground := Go.Ground.data }, { on := 5, ground := Go.Ground.data }, { on := 5, ground := Go.Ground.chain }, { on := 0, ground := Go.Ground.phase }, { on := 1, ground := Go.Ground.phase }, { on := 2, ground := Go.Ground.phase }, { on := 3, ground := Go.Ground.phase }, { on := 4, ground := Go.Ground.phase }, { on := 5, ground := Go.Ground.phase }], guard := none }) rfl (fun K hK => ?_) AllReady.nil
          go_simp
          refine hK _ _ ?_
          clear hK K
          try simp only [Act.put, List.setIfInBounds_toArray, List.set_cons_zero, List.set_cons_succ]
          refine wpAny_done (by kernel_rfl) ?_ _
          go_wp2
          go_roundw
          case rel => exact ⟨m + 1, by omega, by go_num, _, hidM (by rw [HS1.out]; exact HJ4.out), hidM (by rw [HS2.out]; exact HO4.out)⟩
          case measure => simp [intOf]; omega
    · have hki : ¬ (m : Int) < (n : Int) := by omega
      have hmn : m = n := by omega
      rw [hmn, ← HK2.out] at HJ HO
      have hklen := hidM (show k.1.length ≤ 100000 by rw [HK2.out, jrK_len]; simp; omega)
      clear hmn hm hlt HK2
      go_wp2_with fail
      refine (HNUM.out w0 _ _ _ HJ.out q HQ.out).mono ?_
      rintro e W8 ⟨rfl, h8, hg8⟩
      have c6 := h8.facts.c6
      have f6 := h8.facts.f 6
      obtain ⟨z0, z1, z2, z3, z4, z5, z6⟩ := h8.z.cells
      have zf0 := h8.z.free 0
      have zf1 := h8.z.free 1
      have zf2 := h8.z.free 2
      have zf3 := h8.z.free 3
      have zf4 := h8.z.free 4
      have zf5 := h8.z.free 5
      have zf6 := h8.z.free 6
      have h9 := h8.set6 q.1
      have o9 := (HO.out.grown hg8 (by omega)).grown (grownBy_set W8 (w.heap.size + 1 + 1) 6 (.int .i64 q.1)) (by omega)
      have hJF : (⟨a.1, p.1, g.1, b.1, f.1, q.1⟩ : Jb) = ⟨J.id, J.prog, J.agg, J.bound, J.fuel, q.1⟩ := by rw [HJJ.out]
      have HJF := hidM hJF
      obtain ⟨ua, um, uc, rfl⟩ : ∃ ua um uc, u = .slice ua um uc := by obtain ⟨a, c, e⟩ := HO.out.shape; exact ⟨_, _, _, e⟩
      have r1 := h9.facts.r1
      have r0 := h9.facts.r0
      have H9 := hidM h9
      have O9 := hidM o9
      clear hJF h8 hg8 h9 o9 HJ HO
      obtain ⟨qn, qs, qe⟩ := q
      simp only at H9 O9 r0 r1 c6 f6 HJF ⊢
      by_cases he : qe = 0
      · subst he
        have hne0 : ((0 : Int) != 0) = false := rfl
        have hZ := (H9.out.z.put (.int .i64 0) (.string ⟨#[]⟩) (.int .i64 0) (.int .i64 0) (.int .i64 0) (.slice none 0 0) (.int .i64 0)).fin
        have HLD := hidM (loadJ hZ)
        have HFIN := hidM (below7 H9.out.bel (Nat.le_refl _) (.int .i64 0) (.string ⟨#[]⟩) (.int .i64 0) (.int .i64 0) (.int .i64 0) (.slice none 0 0) (.int .i64 0))
        by_cases hsz : 0 < qs.size
        · have hd : decide ((0 : Int) < (qs.size : Int)) = true := decide_eq_true (by omega)
          have HEB := hidM (jEnd_left (j := ⟨a.1, p.1, g.1, b.1, f.1, qn⟩) (l := k.1) (s := (qs, 0)) rfl hsz)
          have hd2 : decide (0 < qs.size) = true := decide_eq_true hsz
          have hszi : (0 : Int) < (qs.size : Int) := by omega
          clear hZ
          go_wp2_with fail
          with_reducible refine bodyPost_ret (results_cellP rfl rfl HLD.out) rfl ?_
          rw [HEB.out]
          exact ⟨⟨_, rfl, World.ownsRow_nil _ _ _ _⟩, HFIN.out⟩
        · have hd : decide ((0 : Int) < (qs.size : Int)) = false := decide_eq_false (by omega)
          have hd2 : decide (0 < qs.size) = false := decide_eq_false hsz
          have hszi : ¬ (0 : Int) < (qs.size : Int) := by omega
          have HC := hidM (jcheck_any ⟨J.id, J.prog, J.agg, J.bound, J.fuel, qn⟩ (.slice ua um uc) k.1 _ (NS.own O9.out) hklen.out)
          have e0 := H9.out.facts.c0
          have e1 := H9.out.facts.c1
          have e2 := H9.out.facts.c2
          have e3 := H9.out.facts.c3
          have e4 := H9.out.facts.c4
          have e5 := H9.out.facts.c5
          have e6 := H9.out.facts.c6
          have HAF := hidM (show ∀ W10, Below (W8.setCell ⟨w.heap.size + 1 + 1, 6, none⟩ (.int .i64 qn)).heap.size (W8.setCell ⟨w.heap.size + 1 + 1, 6, none⟩ (.int .i64 qn)) W10 → JT 85 w W10 (qs, 0) ⟨J.id, J.prog, J.agg, J.bound, J.fuel, qn⟩ (.slice ua um uc) ∧ OwnN W10 (w.heap.size + 3) (.slice ua um uc) k.1 from fun W10 hb => ⟨H9.out.below hb, O9.out.below hb⟩)
          clear hZ HLD HFIN z0 z1 z2 z3 z4 z5 z6 zf0 zf1 zf2 zf3 zf4 zf5 zf6
          cases hjb : jobB ⟨J.id, J.prog, J.agg, J.bound, J.fuel, qn⟩ k.1 with
          | false =>
            rw [hjb] at HC
            have HEB := hidM (jEnd_may (j := ⟨a.1, p.1, g.1, b.1, f.1, qn⟩) (l := k.1) (s := (qs, 0)) rfl (by rw [HJF.out]; exact hjb))
            clear hjb
            go_wp2_with fail
            refine HC.out.mono ?_
            rintro e W10 ⟨rfl, hb10⟩
            rw [show errC false = 1 from rfl]
            obtain ⟨h10, -⟩ := HAF.out W10 hb10
            obtain ⟨z0, z1, z2, z3, z4, z5, z6⟩ := h10.z.cells
            have zf0 := h10.z.free 0
            have zf1 := h10.z.free 1
            have zf2 := h10.z.free 2
            have zf3 := h10.z.free 3
            have zf4 := h10.z.free 4
            have zf5 := h10.z.free 5
            have zf6 := h10.z.free 6
            have HLD := hidM (loadJ (h10.z.put (.int .i64 0) (.string ⟨#[]⟩) (.int .i64 0) (.int .i64 0) (.int .i64 0) (.slice none 0 0) (.int .i64 0)).fin)
            have HFIN := hidM (below7 h10.bel (Nat.le_refl _) (.int .i64 0) (.string ⟨#[]⟩) (.int .i64 0) (.int .i64 0) (.int .i64 0) (.slice none 0 0) (.int .i64 0))
            clear h10 hb10
            go_wp2
            with_reducible refine bodyPost_ret (results_cellP rfl rfl HLD.out) rfl ?_
            rw [HEB.out]
            exact ⟨⟨_, rfl, World.ownsRow_nil _ _ _ _⟩, HFIN.out⟩
          | true =>
            rw [hjb] at HC
            have HEB := hidM (jEnd_ok (j := ⟨a.1, p.1, g.1, b.1, f.1, qn⟩) (l := k.1) (s := (qs, 0)) rfl hsz (by rw [HJF.out]; exact hjb))
            clear hjb
            go_wp2_with fail
            refine HC.out.mono ?_
            rintro e W10 ⟨rfl, hb10⟩
            rw [show errC true = 0 from rfl]
            obtain ⟨h10, o10⟩ := HAF.out W10 hb10
            obtain ⟨z0, z1, z2, z3, z4, z5, z6⟩ := h10.z.cells
            have zf0 := h10.z.free 0
            have zf1 := h10.z.free 1
            have zf2 := h10.z.free 2
            have zf3 := h10.z.free 3
            have zf4 := h10.z.free 4
            have zf5 := h10.z.free 5
            have zf6 := h10.z.free 6
            have e0 := h10.facts.c0
            have e1 := h10.facts.c1
            have e2 := h10.facts.c2
            have e3 := h10.facts.c3
            have e4 := h10.facts.c4
            have e5 := h10.facts.c5
            have e6 := h10.facts.c6
            have HLD := hidM (loadJ (h10.z.put (.int .i64 J.id) (.string J.prog) (.int .i64 J.agg) (.int .i64 J.bound) (.int .i64 J.fuel) (.slice ua um uc) (.int .i64 qn)).fin)
            have HFIN := hidM (below7 h10.bel (Nat.le_refl _) (.int .i64 J.id) (.string J.prog) (.int .i64 J.agg) (.int .i64 J.bound) (.int .i64 J.fuel) (.slice ua um uc) (.int .i64 qn))
            have HOW := hidM (own7 (b := w.heap.size) o10 (by omega) (.int .i64 J.id) (.string J.prog) (.int .i64 J.agg) (.int .i64 J.bound) (.int .i64 J.fuel) (.slice ua um uc) (.int .i64 qn))
            clear h10 hb10 o10
            go_wp2
            with_reducible refine bodyPost_ret (results_cellP rfl rfl HLD.out) rfl ?_
            rw [HEB.out, HJF.out]
            exact ⟨⟨_, rfl, OwnN.down HOW.out (by omega)⟩, HFIN.out⟩
      · have hde : (qe != 0) = true := by simp [he]
        have hde2 : (qe == 0) = false := by simp [he]
        have HEB := hidM (jEnd_bad (j := ⟨a.1, p.1, g.1, b.1, f.1, qn⟩) (l := k.1) (s := (qs, qe)) he)
        have hZ := (H9.out.z.put (.int .i64 0) (.string ⟨#[]⟩) (.int .i64 0) (.int .i64 0) (.int .i64 0) (.slice none 0 0) (.int .i64 0)).fin
        have HLD := hidM (loadJ (hZ.below (Below.refl _ _).drew))
        have HFIN := hidM (below7 H9.out.bel (Nat.le_refl _) (.int .i64 0) (.string ⟨#[]⟩) (.int .i64 0) (.int .i64 0) (.int .i64 0) (.slice none 0 0) (.int .i64 0)).drew
        clear hZ he
        go_wp2
        go_region
        all_goals go_wp2
        all_goals
          with_reducible refine bodyPost_ret (results_cellP rfl rfl HLD.out) rfl ?_
          rw [HEB.out]
          exact ⟨⟨_, rfl, World.ownsRow_nil _ _ _ _⟩, HFIN.out⟩
end Go.Proofs.YtclcgakfmcofaaaGreatDoor
/- The page's own reader: num. -/
namespace Go.Proofs.YtclcgakfmcofaaaGreatDoor
open Go.RowKit
set_option linter.unusedVariables false
set_option maxRecDepth 100000

set_option maxHeartbeats 400000 in
theorem rnum_any (b : Nat) (s : Rd) (w : World) (h : BlkT 90 w b s) (hs : s.1.size ≤ 100000) :
    Calls Tryz.prog 47 #[.pointer (some ⟨b, 0, none⟩)] w (NumP 90 w b (jrI s)) := by
  obtain ⟨t, e⟩ := s
  have HT := hidM (rtake_any t w (by simp only at hs; unfold maxLen; omega))
  obtain ⟨c0, c1⟩ := h.cells
  have f0 := h.free 0
  have f1 := h.free 1
  have H := hidM h
  simp only at c0 c1 hs
  by_cases he : e = 0
  · subst he
    by_cases h0 : (takeOf t).2.2 = 0
    · have hR := jrI_ok h0
      obtain ⟨q, e1, hq, -⟩ := take_back t (takeOf t).1 (takeOf t).2.1 (by rw [← h0])
      rw [e1] at HT hR
      rw [h0] at HT
      have hfe : from' t (q : Int) = t.extract q t.size := by unfold from'; rw [Int.toNat_natCast]
      rw [hfe] at hR
      have hqi : (0 : Int) ≤ (q : Int) := by omega
      have hqs : (q : Int) ≤ (t.size : Int) := by omega
      have HE := hidM (show NumP 90 w b (jrI (t, 0)) (.returned (.int .i64 (takeOf t).1)) (w.setCell ⟨b, 0, none⟩ (.string (t.extract q t.size))) from ⟨by rw [hR], by rw [hR]; exact h.put0 _, grownBy_set _ _ _ _⟩)
      clear hR hfe e1 h0 h
      go_enter Tryz.func47, Tryz.ntmps47
      go_wp2_with (first
        | (go_at_call 83; refine HT.out.mono ?_; rintro e w' ⟨rfl, rfl⟩))
      go_ret
      exact HE.out
    · have hR := jrI_err h0
      obtain ⟨g1, g2⟩ := takeOf_err h0
      rw [g1, g2] at HT
      obtain ⟨x, hx⟩ : ∃ x, x = (takeOf t).2.2 := ⟨_, rfl⟩
      rw [← hx] at HT h0 hR
      have hd : (x != 0) = true := by simp [h0]
      have hd2 : (x == 0) = false := by simp [h0]
      have HE := hidM (show NumP 90 w b (jrI (t, 0)) (.returned (.int .i64 0)) (w.setCell ⟨b, 1, none⟩ (.int .i64 x)) from ⟨by rw [hR], by rw [hR]; exact h.put1 _, grownBy_set _ _ _ _⟩)
      clear hR h0 h g1 g2 hx
      go_enter Tryz.func47, Tryz.ntmps47
      go_wp2_with (first
        | (go_at_call 83; refine HT.out.mono ?_; rintro e w' ⟨rfl, rfl⟩))
      go_ret
      exact HE.out
  · have HR := hidM (jrI_bad (s := (t, e)) he)
    have hd : (e != 0) = true := by simp [he]
    have hd2 : (e == 0) = false := by simp [he]
    clear h
    go_enter Tryz.func47, Tryz.ntmps47
    go_wp2
    go_ret
    rw [HR.out]
    exact NumP.mk0 rfl H.out
end Go.Proofs.YtclcgakfmcofaaaGreatDoor
/- The page's own Take. -/
namespace Go.Proofs.YtclcgakfmcofaaaGreatDoor
open Go.RowKit
set_option linter.unusedVariables false
set_option maxRecDepth 100000

set_option maxHeartbeats 6400000 in
theorem rjtake_any (s : ByteArray) (w : World) (hs : s.size ≤ 100000) : Calls Tryz.prog 14 #[.string s] w (JTR w (jTake s)) := by
  obtain ⟨a, p, g, b, f, z, k, q, ha, hp, hg, hb, hf, hz, hk, hq, hE⟩ := jtake_e s
  rw [hE]
  have HA := hidM ha
  have HP := hidM hp
  have HG := hidM hg
  have HBB := hidM hb
  have HFF := hidM hf
  have HZ := hidM hz
  have HK := hidM hk
  have HQ := hidM hq
  clear ha hp hg hb hf hz hk hq
  have h0 := JT.start 90 w s hs
  obtain ⟨W0, hW0⟩ : ∃ W0 : World, W0 = ((w.alloc (.cells #[.int .i64 0, .string ⟨#[]⟩, .int .i64 0, .int .i64 0, .int .i64 0, .slice none 0 0, .int .i64 0] 37)).alloc (.cells #[.string s, .int .i64 0] 90)).alloc (.cells #[.int .i64 0, .string ⟨#[]⟩, .int .i64 0, .int .i64 0, .int .i64 0, .slice none 0 0, .int .i64 0] 37) := ⟨_, rfl⟩
  rw [← hW0] at h0
  have HW := hidM hW0.symm
  have H0 := hidM h0
  have HNUM := hidM (fun (W : World) (s : Rd) (j : Jb) (u : Value) (h : JT 90 w W s j u) (t : Int × Rd) (ht : t = jrI s) => (rnum_any (w.heap.size + 1) s W h.r h.sz).mono (fun e W' (hp : NumP 90 W (w.heap.size + 1) (jrI s) e W') => (⟨by rw [ht]; exact hp.1, by rw [ht]; exact h.call hp.2.1 hp.2.2 (jrI_size s), hp.2.2⟩ : e = .returned (.int .i64 t.1) ∧ JT 90 w W' t.2 j u ∧ W.grownBy W' (some (w.heap.size + 1)))))
  clear hW0 h0 hE
  go_enter Tryz.func14, Tryz.ntmps14
  go_wp2_with fail
  rw [HW.out]
  refine (HNUM.out W0 (s, 0) j00 (.slice none 0 0) H0.out a HA.out).mono ?_
  rintro e W1 ⟨rfl, h1, -⟩
  have c0 := h1.facts.c0
  have f0 := h1.facts.f 0
  have H1 := hidM (h1.set0 a.1)
  clear h1 H0
  go_wp2_with fail
  obtain ⟨n1, hn1⟩ : ∃ n1, n1 = jrI a.2 := ⟨_, rfl⟩
  refine (HNUM.out _ a.2 _ _ H1.out n1 hn1).mono ?_
  rintro e W2 ⟨rfl, h2, -⟩
  have r1 := h2.facts.r1
  have HN1 := hidM hn1
  have HP2 := HP
  clear c0 f0 H1 hn1
  obtain ⟨nn, ns, ne⟩ := n1
  simp only at h2 r1
  by_cases he1 : ne = 0
  · subst he1
    have hd0 : ((0 : Int) == 0) = true := rfl
    by_cases hneg : nn < 0
    · have hp7 : p = (⟨#[]⟩, (ns, 7)) := by rw [HP.out, jrX_out (by rw [← HN1.out]; simp only; omega), ← HN1.out]
      obtain ⟨z0, z1, z2, z3, z4, z5, z6⟩ := h2.z.cells
      have zf0 := h2.z.free 0
      have zf1 := h2.z.free 1
      have zf2 := h2.z.free 2
      have zf3 := h2.z.free 3
      have zf4 := h2.z.free 4
      have zf5 := h2.z.free 5
      have zf6 := h2.z.free 6
      have HLD := hidM (loadJ (h2.z.put (.int .i64 0) (.string ⟨#[]⟩) (.int .i64 0) (.int .i64 0) (.int .i64 0) (.slice none 0 0) (.int .i64 0)).fin)
      have HFIN := hidM (below7 h2.bel (Nat.le_refl _) (.int .i64 0) (.string ⟨#[]⟩) (.int .i64 0) (.int .i64 0) (.int .i64 0) (.slice none 0 0) (.int .i64 0))
      have HEB := hidM (jr_end_p (p := a) HG.out HBB.out HFF.out HZ.out HK.out HQ.out hp7 (by decide) ⟨a.1, p.1, g.1, b.1, f.1, q.1⟩ k.1)
      clear h2 hp7
      go_wp2_with fail
      with_reducible refine bodyPost_ret (results_cellP rfl rfl HLD.out) rfl ?_
      rw [HEB.out]
      exact ⟨⟨_, rfl, World.ownsRow_nil _ _ _ _⟩, HFIN.out⟩
    · by_cases hbig : 512 < nn
      · have hp7 : p = (⟨#[]⟩, (ns, 7)) := by rw [HP.out, jrX_out (by rw [← HN1.out]; simp only; omega), ← HN1.out]
        obtain ⟨z0, z1, z2, z3, z4, z5, z6⟩ := h2.z.cells
        have zf0 := h2.z.free 0
        have zf1 := h2.z.free 1
        have zf2 := h2.z.free 2
        have zf3 := h2.z.free 3
        have zf4 := h2.z.free 4
        have zf5 := h2.z.free 5
        have zf6 := h2.z.free 6
        have HLD := hidM (loadJ (h2.z.put (.int .i64 0) (.string ⟨#[]⟩) (.int .i64 0) (.int .i64 0) (.int .i64 0) (.slice none 0 0) (.int .i64 0)).fin)
        have HFIN := hidM (below7 h2.bel (Nat.le_refl _) (.int .i64 0) (.string ⟨#[]⟩) (.int .i64 0) (.int .i64 0) (.int .i64 0) (.slice none 0 0) (.int .i64 0))
        have HEB := hidM (jr_end_p (p := a) HG.out HBB.out HFF.out HZ.out HK.out HQ.out hp7 (by decide) ⟨a.1, p.1, g.1, b.1, f.1, q.1⟩ k.1)
        clear h2 hp7
        go_wp2_with fail
        with_reducible refine bodyPost_ret (results_cellP rfl rfl HLD.out) rfl ?_
        rw [HEB.out]
        exact ⟨⟨_, rfl, World.ownsRow_nil _ _ _ _⟩, HFIN.out⟩
      · have r0 := h2.facts.r0
        simp only at r0
        have hdA : decide (nn < 0) = false := decide_eq_false hneg
        have hdB : decide (512 < nn) = false := decide_eq_false hbig
        by_cases hcut : (ns.size : Int) < nn
        · have hdC : decide ((ns.size : Int) < nn) = true := decide_eq_true hcut
          have hp6 : p = (⟨#[]⟩, (ns, 6)) := by rw [HP.out, jrX_cut (by rw [← HN1.out]; simp only; omega) (by rw [← HN1.out]; simp only; omega), ← HN1.out]
          obtain ⟨z0, z1, z2, z3, z4, z5, z6⟩ := h2.z.cells
          have zf0 := h2.z.free 0
          have zf1 := h2.z.free 1
          have zf2 := h2.z.free 2
          have zf3 := h2.z.free 3
          have zf4 := h2.z.free 4
          have zf5 := h2.z.free 5
          have zf6 := h2.z.free 6
          have HLD := hidM (loadJ (h2.z.put (.int .i64 0) (.string ⟨#[]⟩) (.int .i64 0) (.int .i64 0) (.int .i64 0) (.slice none 0 0) (.int .i64 0)).fin)
          have HFIN := hidM (below7 h2.bel (Nat.le_refl _) (.int .i64 0) (.string ⟨#[]⟩) (.int .i64 0) (.int .i64 0) (.int .i64 0) (.slice none 0 0) (.int .i64 0))
          have HEB := hidM (jr_end_p (p := a) HG.out HBB.out HFF.out HZ.out HK.out HQ.out hp6 (by decide) ⟨a.1, p.1, g.1, b.1, f.1, q.1⟩ k.1)
          clear h2 hp6
          go_wp2_with fail
          with_reducible refine bodyPost_ret (results_cellP rfl rfl HLD.out) rfl ?_
          rw [HEB.out]
          exact ⟨⟨_, rfl, World.ownsRow_nil _ _ _ _⟩, HFIN.out⟩
        · obtain ⟨nq, rfl⟩ : ∃ nq : Nat, nn = (nq : Int) := ⟨nn.toNat, by omega⟩
          have hd5 : decide ((512 : Int) < (nq : Int)) = false := decide_eq_false hbig
          have hd6 : decide (512 < nq) = false := decide_eq_false (by omega)
          have hb6 : ¬ 512 < nq := by omega
          have hd7 : decide ((ns.size : Int) < (nq : Int)) = false := decide_eq_false hcut
          have hd8 : decide (ns.size < nq) = false := decide_eq_false (by omega)
          have hn0 : ¬ (nq : Int) < 0 := by omega
          have hd9 : decide ((nq : Int) < 0) = false := decide_eq_false hn0
          have hq0 : (0 : Int) ≤ (nq : Int) := by omega
          have hcut2 : ¬ ns.size < nq := by omega
          have hqs : (nq : Int) ≤ (ns.size : Int) := by omega
          have hp0 : p = (ns.extract 0 nq, (ns.extract nq ns.size, 0)) := by rw [HP.out, jrX_ok (by rw [← HN1.out]; simp only; omega) (by rw [← HN1.out]; simp only; omega), ← HN1.out]; simp only [Int.toNat_natCast, from']
          have c1 := h2.facts.c1
          have f1 := h2.facts.f 1
          have g0 := h2.facts.g 0
          have h3 : JT 90 w ((W2.setCell ⟨w.heap.size + 1 + 1, 1, none⟩ (.string (ns.extract 0 nq))).setCell ⟨w.heap.size + 1, 0, none⟩ (.string (ns.extract nq ns.size))) p.2 ⟨a.1, p.1, 0, 0, 0, 0⟩ (.slice none 0 0) := by
            rw [hp0]
            exact (h2.set1 (ns.extract 0 nq)).call ((h2.set1 _).r.put0 _) (grownBy_set _ _ _ _) (by simp only [ByteArray.size_extract]; omega)
          have H3 := hidM h3
          clear h2 h3 hp0
          go_wp2_with fail
          refine (HNUM.out _ p.2 _ _ H3.out g HG.out).mono ?_
          rintro e W4 ⟨rfl, h4, -⟩
          have H4 := hidM h4
          clear h4 H3
          go_wp2_with fail
          refine (HNUM.out _ g.2 _ _ H4.out b HBB.out).mono ?_
          rintro e W5 ⟨rfl, h5, -⟩
          have H5 := hidM h5
          clear h5 H4
          go_wp2_with fail
          refine (HNUM.out _ b.2 _ _ H5.out f HFF.out).mono ?_
          rintro e W6 ⟨rfl, h6, -⟩
          have c2 := h6.facts.c2
          have c3 := h6.facts.c3
          have c4 := h6.facts.c4
          have f2 := h6.facts.f 2
          have f3 := h6.facts.f 3
          have f4 := h6.facts.f 4
          have H7 := hidM (((h6.set2 g.1).set3 b.1).set4 f.1)
          clear h6 H5
          go_wp2_with fail
          obtain ⟨n2, hn2⟩ : ∃ n2, n2 = jrI f.2 := ⟨_, rfl⟩
          refine (HNUM.out _ f.2 _ _ H7.out n2 hn2).mono ?_
          rintro e W8 ⟨rfl, h8, -⟩
          have r1 := h8.facts.r1
          have HN2 := hidM hn2
          clear c2 c3 c4 f2 f3 f4 H7 hn2
          obtain ⟨zn, zs, ze⟩ := n2
          simp only at h8 r1
          by_cases hze : ze = 0
          · subst hze
            by_cases hneg : zn < 0
            · have hz7 : z = (0, (zs, 7)) := by rw [HZ.out, jrZ_out (by rw [← HN2.out]; simp only; omega), ← HN2.out]
              obtain ⟨z0, z1, z2, z3, z4, z5, z6⟩ := h8.z.cells
              have zf0 := h8.z.free 0
              have zf1 := h8.z.free 1
              have zf2 := h8.z.free 2
              have zf3 := h8.z.free 3
              have zf4 := h8.z.free 4
              have zf5 := h8.z.free 5
              have zf6 := h8.z.free 6
              have HLD := hidM (loadJ (h8.z.put (.int .i64 0) (.string ⟨#[]⟩) (.int .i64 0) (.int .i64 0) (.int .i64 0) (.slice none 0 0) (.int .i64 0)).fin)
              have HFIN := hidM (below7 h8.bel (Nat.le_refl _) (.int .i64 0) (.string ⟨#[]⟩) (.int .i64 0) (.int .i64 0) (.int .i64 0) (.slice none 0 0) (.int .i64 0))
              have HEB := hidM (jr_end_k HK.out HQ.out hz7 (by decide) ⟨a.1, p.1, g.1, b.1, f.1, q.1⟩ k.1)
              clear h8 hz7
              go_wp2_with fail
              with_reducible refine bodyPost_ret (results_cellP rfl rfl HLD.out) rfl ?_
              rw [HEB.out]
              exact ⟨⟨_, rfl, World.ownsRow_nil _ _ _ _⟩, HFIN.out⟩
            · by_cases hbig : 6 < zn
              · have hz7 : z = (0, (zs, 7)) := by rw [HZ.out, jrZ_out (by rw [← HN2.out]; simp only; omega), ← HN2.out]
                obtain ⟨z0, z1, z2, z3, z4, z5, z6⟩ := h8.z.cells
                have zf0 := h8.z.free 0
                have zf1 := h8.z.free 1
                have zf2 := h8.z.free 2
                have zf3 := h8.z.free 3
                have zf4 := h8.z.free 4
                have zf5 := h8.z.free 5
                have zf6 := h8.z.free 6
                have HLD := hidM (loadJ (h8.z.put (.int .i64 0) (.string ⟨#[]⟩) (.int .i64 0) (.int .i64 0) (.int .i64 0) (.slice none 0 0) (.int .i64 0)).fin)
                have HFIN := hidM (below7 h8.bel (Nat.le_refl _) (.int .i64 0) (.string ⟨#[]⟩) (.int .i64 0) (.int .i64 0) (.int .i64 0) (.slice none 0 0) (.int .i64 0))
                have HEB := hidM (jr_end_k HK.out HQ.out hz7 (by decide) ⟨a.1, p.1, g.1, b.1, f.1, q.1⟩ k.1)
                clear h8 hz7
                go_wp2_with fail
                with_reducible refine bodyPost_ret (results_cellP rfl rfl HLD.out) rfl ?_
                rw [HEB.out]
                exact ⟨⟨_, rfl, World.ownsRow_nil _ _ _ _⟩, HFIN.out⟩
              · obtain ⟨n, rfl⟩ : ∃ n : Nat, zn = (n : Int) := ⟨zn.toNat, by omega⟩
                have hzz : z = ((n : Int), (zs, 0)) := by rw [HZ.out, jrZ_in (by rw [← HN2.out]; simp only; omega), ← HN2.out]
                have hn6 : n ≤ 6 := by omega
                obtain ⟨J, hJ⟩ : ∃ J : Jb, J = ⟨a.1, p.1, g.1, b.1, f.1, 0⟩ := ⟨_, rfl⟩
                have H8 : Hid (JT 90 w W8 z.2 J (.slice none 0 0)) := hidM (by rw [hzz, hJ]; exact h8)
                have HK2 : Hid (k = jrK n z.2 []) := hidM (by have := HK.out; rw [hzz] at this ⊢; simpa only [Int.toNat_natCast] using this)
                have HJJ := hidM hJ
                have hz6 : ¬ 6 < n := by omega
                have hz7 : ¬ (6 : Int) < (n : Int) := by omega
                have hz8 : decide ((6 : Int) < (n : Int)) = false := decide_eq_false hz7
                have hz9 : ¬ (n : Int) < 0 := by omega
                have hzA : decide ((n : Int) < 0) = false := decide_eq_false hz9
                have hzB : decide (6 < n) = false := decide_eq_false hz6
                clear h8 hJ HK hzz HN2
                go_wp2
                go_loopw [7] (fun i wr => ∃ m : Nat, m ≤ n ∧ i = .int .i64 m ∧ ∃ u, Hid (JT 90 w wr (jrK m z.2 []).2 J u) ∧ Hid (OwnN wr (w.heap.size + 3) u (jrK m z.2 []).1)) (fun i _ => n - (intOf i).toNat)
                case atStart => exact ⟨0, by omega, rfl, _, H8, hidM (World.ownsRow_nil _ _ _ _)⟩
                case round =>
                  rename World => w0
                  obtain ⟨m, hm, rfl, u, HJ, HO⟩ := hrel
                  clear H8
                  by_cases hlt : m < n
                  · have hki : (m : Int) < (n : Int) := by omega
                    have hkd : decide ((m : Int) < (n : Int)) = true := decide_eq_true hki
                    have hkd2 : decide (m < n) = true := decide_eq_true hlt
                    have l1 := HJ.out.facts.r1
                    by_cases hse : (jrK m z.2 []).2.2 = 0
                    · rw [hse] at l1
                      have HLEN := hidM (show (jrK m z.2 []).1.length ≤ 1000 by rw [jrK_len]; simp; omega)
                      have HS := jrK_snoc m z.2 []
                      obtain ⟨t, ht⟩ : ∃ t, t = jrI (jrK m z.2 []).2 := ⟨_, rfl⟩
                      rw [← ht] at HS
                      have HS1 := hidM (show (jrK (m + 1) z.2 []).2 = t.2 by rw [HS])
                      have HS2 := hidM (show (jrK (m + 1) z.2 []).1 = (jrK m z.2 []).1 ++ [t.1] by rw [HS])
                      have HT := hidM ht
                      clear HS ht hse
                      obtain ⟨ua, um, uc, rfl⟩ : ∃ ua um uc, u = .slice ua um uc := by obtain ⟨a, c, e⟩ := HO.out.shape; exact ⟨_, _, _, e⟩
                      have c5 := HJ.out.facts.c5
                      generalize (jrK m z.2 []).1 = lm at HO HLEN HS2
                      generalize (jrK m z.2 []).2 = sm at HJ HT
                      have HJD := hidM (HJ.out.below (Below.refl _ _).drew)
                      have HOD := hidM (HO.out.below (Below.refl _ _).drew)
                      go_wp2_with fail
                      refine wp_region_any (by kernel_rfl) ?_
                      change wpAny _ _ _ _ _ _ _ (World.drew _)
                      refine wpAny_take (i := 0) (oi := { dst := some 103, op := Go.Op.fieldAddr 37 (Go.Operand.tmp 5) 5, type := 0, pos := "thresherref13.go:146", after := #[], guard := none }) (v := ?v0y6) rfl (by kernel_rfl) (by kernel_rfl) (by kernel_rfl) (fun _ _ _ h => h) (Or.inl ⟨by rfl, ?h0y6⟩) ?r0y6
                      case h0y6 => (intro W; go_simp; try with_reducible rfl)
                      simp only [Act.put, List.setIfInBounds_toArray, List.set_cons_zero, List.set_cons_succ]
                      refine wpAny_take (i := 2) (oi := { dst := some 105, op := Go.Op.move (Go.Operand.tmp 4), type := 88, pos := "thresherref13.go:146", after := #[], guard := none }) (v := ?v2y7) rfl (by kernel_rfl) (by kernel_rfl) (by kernel_rfl) (fun _ _ _ h => h) (Or.inl ⟨by rfl, ?h2y7⟩) ?r2y7
                      case h2y7 => (intro W; go_simp; try with_reducible rfl)
                      simp only [Act.put, List.setIfInBounds_toArray, List.set_cons_zero, List.set_cons_succ]
                      refine wpAny_ready (rs := [1, 3]) (by kernel_rfl) (by simp) ?_
                      refine AllReady.cons (o := { dst := some 104, op := Go.Op.load 25 (Go.Operand.tmp 103), type := 25, pos := "thresherref13.go:146", after := #[{ on := 0, ground := Go.Ground.data }], guard := none }) rfl (fun K hK => ?_) (AllReady.cons (o := { dst := some 106, op := Go.Op.call { callee := Go.Callee.value (Go.Operand.func 47), args := #[Go.Operand.tmp 105], argTypes := #[88] }, type := 2, pos := "thresherref13.go:146", after := #[{ on := 2, ground := Go.Ground.data }], guard := none }) rfl (fun K hK => ?_) AllReady.nil)
                      · go_simp
                        refine hK _ _ ?_
                        clear hK K
                        try simp only [Act.put, List.setIfInBounds_toArray, List.set_cons_zero, List.set_cons_succ]
                        refine wpAny_ready (rs := [3]) (by kernel_rfl) (by simp) ?_
                        refine AllReady.cons (o := { dst := some 106, op := Go.Op.call { callee := Go.Callee.value (Go.Operand.func 47), args := #[Go.Operand.tmp 105], argTypes := #[88] }, type := 2, pos := "thresherref13.go:146", after := #[{ on := 2, ground := Go.Ground.data }], guard := none }) rfl (fun K hK => ?_) AllReady.nil
                        go_simp
                        refine (HNUM.out w0.drew _ _ _ HJD.out t HT.out).mono ?_
                        rintro e W2 ⟨rfl, h2, hg2⟩
                        have o2 := HOD.out.grown hg2 (by omega)
                        obtain ⟨v4, W4, hap, hfz, ⟨u5, hu5⟩, ⟨va4, vm4, vc4, rfl⟩, h4, o4⟩ := h2.push (n := t.1) o2 HLEN.out
                        have d5 := h2.facts.c5
                        have dA := (h2.below (stJ W2 (.cells #[.int .i64 t.1] 3))).facts.c5
                        have HJ4 := hidM h4
                        have HO4 := hidM o4
                        have HAP := hidM hap
                        clear h4 o4 hap h2 hg2 o2
                        refine hK _ _ ?_
                        clear hK K
                        try simp only [Act.put, List.setIfInBounds_toArray, List.set_cons_zero, List.set_cons_succ]
                        refine wpAny_ready (rs := [4]) (by kernel_rfl) (by simp) ?_
                        refine AllReady.cons (o := { dst := some 107, op := Go.Op.buildSlice 25 1 #[(0, Go.Operand.tmp 106)], type := 25, pos := "thresherref13.go:146", after := #[{ on := 3, ground := Go.Ground.data }], guard := none }) rfl (fun K hK => ?_) AllReady.nil
                        go_simp
                        refine hK _ _ ?_
                        clear hK K
                        try simp only [Act.put, List.setIfInBounds_toArray, List.set_cons_zero, List.set_cons_succ]
                        refine wpAny_ready (rs := [5]) (by kernel_rfl) (by simp) ?_
                        refine AllReady.cons (o := { dst := some 108, op := Go.Op.call { callee := Go.Callee.builtin Go.Builtin.append, args := #[Go.Operand.tmp 104, Go.Operand.tmp 107], argTypes := #[25, 25] }, type := 25, pos := "thresherref13.go:146", after := #[{ on := 1, ground := Go.Ground.data }, { on := 4, ground := Go.Ground.data }, { on := 3, ground := Go.Ground.chain }], guard := none }) rfl (fun K hK => ?_) AllReady.nil
                        refine step_append_run _ rfl _ _ _ rfl (.slice ua um uc) _ _ W4 rfl rfl HAP.out ?_
                        refine hK _ _ ?_
                        clear hK K
                        try simp only [Act.put, List.setIfInBounds_toArray, List.set_cons_zero, List.set_cons_succ]
                        refine wpAny_take (i := 6) (oi := { dst := some 109, op := Go.Op.fieldAddr 37 (Go.Operand.tmp 5) 5, type := 0, pos := "thresherref13.go:146", after := #[{ on := 0, ground := Go.Ground.phase }, { on := 1, ground := Go.Ground.phase }, { on := 2, ground := Go.Ground.phase }, { on := 3, ground := Go.Ground.phase }, { on := 4, ground := Go.Ground.phase }, { on := 5, ground := Go.Ground.phase }], guard := none }) (v := ?v6y8) rfl (by kernel_rfl) (by kernel_rfl) (by kernel_rfl) (fun _ _ _ h => h) (Or.inl ⟨by rfl, ?h6y8⟩) ?r6y8
                        case h6y8 => (intro W; go_simp; try with_reducible rfl)
                        simp only [Act.put, List.setIfInBounds_toArray, List.set_cons_zero, List.set_cons_succ]
                        refine wpAny_ready (rs := [7]) (by kernel_rfl) (by simp) ?_
                        refine AllReady.cons (o := { dst := none, op := Go.Op.store 25 (Go.Operand.tmp 109) (Go.Operand.tmp 108), type := 0, pos := "thresherref13.go:146", after := #[{ on := 6, ground := Go.Ground.data }, { on := 5, ground := Go.Ground.data }, { on := 5, ground := Go.Ground.chain }, { on := 0, ground := Go.Ground.phase }, { on := 1, ground := Go.Ground.phase }, { on := 2, ground := Go.Ground.phase }, { on := 3, ground := Go.Ground.phase }, { on := 4, ground := Go.Ground.phase }, { on := 5, ground := Go.Ground.phase }], guard := none }) rfl (fun K hK => ?_) AllReady.nil
                        go_simp
                        refine hK _ _ ?_
                        clear hK K
                        try simp only [Act.put, List.setIfInBounds_toArray, List.set_cons_zero, List.set_cons_succ]
                        refine wpAny_done (by kernel_rfl) ?_ _
                        go_wp2
                        go_roundw
                        case rel => exact ⟨m + 1, by omega, by go_num, _, hidM (by rw [HS1.out]; exact HJ4.out), hidM (by rw [HS2.out]; exact HO4.out)⟩
                        case measure => simp [intOf]; omega
                      · go_simp
                        refine (HNUM.out w0.drew _ _ _ HJD.out t HT.out).mono ?_
                        rintro e W2 ⟨rfl, h2, hg2⟩
                        have o2 := HOD.out.grown hg2 (by omega)
                        obtain ⟨v4, W4, hap, hfz, ⟨u5, hu5⟩, ⟨va4, vm4, vc4, rfl⟩, h4, o4⟩ := h2.push (n := t.1) o2 HLEN.out
                        have d5 := h2.facts.c5
                        have dA := (h2.below (stJ W2 (.cells #[.int .i64 t.1] 3))).facts.c5
                        have HJ4 := hidM h4
                        have HO4 := hidM o4
                        have HAP := hidM hap
                        clear h4 o4 hap h2 hg2 o2
                        refine hK _ _ ?_
                        clear hK K
                        try simp only [Act.put, List.setIfInBounds_toArray, List.set_cons_zero, List.set_cons_succ]
                        refine wpAny_ready (rs := [1, 4]) (by kernel_rfl) (by simp) ?_
                        refine AllReady.cons (o := { dst := some 104, op := Go.Op.load 25 (Go.Operand.tmp 103), type := 25, pos := "thresherref13.go:146", after := #[{ on := 0, ground := Go.Ground.data }], guard := none }) rfl (fun K hK => ?_) (AllReady.cons (o := { dst := some 107, op := Go.Op.buildSlice 25 1 #[(0, Go.Operand.tmp 106)], type := 25, pos := "thresherref13.go:146", after := #[{ on := 3, ground := Go.Ground.data }], guard := none }) rfl (fun K hK => ?_) AllReady.nil)
                        · go_simp
                          refine hK _ _ ?_
                          clear hK K
                          try simp only [Act.put, List.setIfInBounds_toArray, List.set_cons_zero, List.set_cons_succ]
                          refine wpAny_ready (rs := [4]) (by kernel_rfl) (by simp) ?_
                          refine AllReady.cons (o := { dst := some 107, op := Go.Op.buildSlice 25 1 #[(0, Go.Operand.tmp 106)], type := 25, pos := "thresherref13.go:146", after := #[{ on := 3, ground := Go.Ground.data }], guard := none }) rfl (fun K hK => ?_) AllReady.nil
                          go_simp
                          refine hK _ _ ?_
                          clear hK K
                          try simp only [Act.put, List.setIfInBounds_toArray, List.set_cons_zero, List.set_cons_succ]
                          refine wpAny_ready (rs := [5]) (by kernel_rfl) (by simp) ?_
                          refine AllReady.cons (o := { dst := some 108, op := Go.Op.call { callee := Go.Callee.builtin Go.Builtin.append, args := #[Go.Operand.tmp 104, Go.Operand.tmp 107], argTypes := #[25, 25] }, type := 25, pos := "thresherref13.go:146", after := #[{ on := 1, ground := Go.Ground.data }, { on := 4, ground := Go.Ground.data }, { on := 3, ground := Go.Ground.chain }], guard := none }) rfl (fun K hK => ?_) AllReady.nil
                          refine step_append_run _ rfl _ _ _ rfl (.slice ua um uc) _ _ W4 rfl rfl HAP.out ?_
                          refine hK _ _ ?_
                          clear hK K
                          try simp only [Act.put, List.setIfInBounds_toArray, List.set_cons_zero, List.set_cons_succ]
                          refine wpAny_take (i := 6) (oi := { dst := some 109, op := Go.Op.fieldAddr 37 (Go.Operand.tmp 5) 5, type := 0, pos := "thresherref13.go:146", after := #[{ on := 0, ground := Go.Ground.phase }, { on := 1, ground := Go.Ground.phase }, { on := 2, ground := Go.Ground.phase }, { on := 3, ground := Go.Ground.phase }, { on := 4, ground := Go.Ground.phase }, { on := 5, ground := Go.Ground.phase }], guard := none }) (v := ?v6y9) rfl (by kernel_rfl) (by kernel_rfl) (by kernel_rfl) (fun _ _ _ h => h) (Or.inl ⟨by rfl, ?h6y9⟩) ?r6y9
                          case h6y9 => (intro W; go_simp; try with_reducible rfl)
                          simp only [Act.put, List.setIfInBounds_toArray, List.set_cons_zero, List.set_cons_succ]
                          refine wpAny_ready (rs := [7]) (by kernel_rfl) (by simp) ?_
                          refine AllReady.cons (o := { dst := none, op := Go.Op.store 25 (Go.Operand.tmp 109) (Go.Operand.tmp 108), type := 0, pos := "thresherref13.go:146", after := #[{ on := 6, ground := Go.Ground.data }, { on := 5, ground := Go.Ground.data }, { on := 5, ground := Go.Ground.chain }, { on := 0, ground := Go.Ground.phase }, { on := 1, ground := Go.Ground.phase }, { on := 2, ground := Go.Ground.phase }, { on := 3, ground := Go.Ground.phase }, { on := 4, ground := Go.Ground.phase }, { on := 5, ground := Go.Ground.phase }], guard := none }) rfl (fun K hK => ?_) AllReady.nil
                          go_simp
                          refine hK _ _ ?_
                          clear hK K
                          try simp only [Act.put, List.setIfInBounds_toArray, List.set_cons_zero, List.set_cons_succ]
                          refine wpAny_done (by kernel_rfl) ?_ _
                          go_wp2
                          go_roundw
                          case rel => exact ⟨m + 1, by omega, by go_num, _, hidM (by rw [HS1.out]; exact HJ4.out), hidM (by rw [HS2.out]; exact HO4.out)⟩
                          case measure => simp [intOf]; omega
                        · go_simp
                          refine hK _ _ ?_
                          clear hK K
                          try simp only [Act.put, List.setIfInBounds_toArray, List.set_cons_zero, List.set_cons_succ]
                          refine wpAny_ready (rs := [1]) (by kernel_rfl) (by simp) ?_
                          refine AllReady.cons (o := { dst := some 104, op := Go.Op.load 25 (Go.Operand.tmp 103), type := 25, pos := "thresherref13.go:146", after := #[{ on := 0, ground := Go.Ground.data }], guard := none }) rfl (fun K hK => ?_) AllReady.nil
                          go_simp
                          refine hK _ _ ?_
                          clear hK K
                          try simp only [Act.put, List.setIfInBounds_toArray, List.set_cons_zero, List.set_cons_succ]
                          refine wpAny_ready (rs := [5]) (by kernel_rfl) (by simp) ?_
                          refine AllReady.cons (o := { dst := some 108, op := Go.Op.call { callee := Go.Callee.builtin Go.Builtin.append, args := #[Go.Operand.tmp 104, Go.Operand.tmp 107], argTypes := #[25, 25] }, type := 25, pos := "thresherref13.go:146", after := #[{ on := 1, ground := Go.Ground.data }, { on := 4, ground := Go.Ground.data }, { on := 3, ground := Go.Ground.chain }], guard := none }) rfl (fun K hK => ?_) AllReady.nil
                          refine step_append_run _ rfl _ _ _ rfl (.slice ua um uc) _ _ W4 rfl rfl HAP.out ?_
                          refine hK _ _ ?_
                          clear hK K
                          try simp only [Act.put, List.setIfInBounds_toArray, List.set_cons_zero, List.set_cons_succ]
                          refine wpAny_take (i := 6) (oi := { dst := some 109, op := Go.Op.fieldAddr 37 (Go.Operand.tmp 5) 5, type := 0, pos := "thresherref13.go:146", after := #[{ on := 0, ground := Go.Ground.phase }, { on := 1, ground := Go.Ground.phase }, { on := 2, ground := Go.Ground.phase }, { on := 3, ground := Go.Ground.phase }, { on := 4, ground := Go.Ground.phase }, { on := 5, ground := Go.Ground.phase }], guard := none }) (v := ?v6y10) rfl (by kernel_rfl) (by kernel_rfl) (by kernel_rfl) (fun _ _ _ h => h) (Or.inl ⟨by rfl, ?h6y10⟩) ?r6y10
                          case h6y10 => (intro W; go_simp; try with_reducible rfl)
                          simp only [Act.put, List.setIfInBounds_toArray, List.set_cons_zero, List.set_cons_succ]
                          refine wpAny_ready (rs := [7]) (by kernel_rfl) (by simp) ?_
                          refine AllReady.cons (o := { dst := none, op := Go.Op.store 25 (Go.Operand.tmp 109) (Go.Operand.tmp 108), type := 0, pos := "thresherref13.go:146", after := #[{ on := 6, ground := Go.Ground.data }, { on := 5, ground := Go.Ground.data }, { on := 5, ground := Go.Ground.chain }, { on := 0, ground := Go.Ground.phase }, { on := 1, ground := Go.Ground.phase }, { on := 2, ground := Go.Ground.phase }, { on := 3, ground := Go.Ground.phase }, { on := 4, ground := Go.Ground.phase }, { on := 5, ground := Go.Ground.phase }], guard := none }) rfl (fun K hK => ?_) AllReady.nil
                          go_simp
                          refine hK _ _ ?_
                          clear hK K
                          try simp only [Act.put, List.setIfInBounds_toArray, List.set_cons_zero, List.set_cons_succ]
                          refine wpAny_done (by kernel_rfl) ?_ _
                          go_wp2
                          go_roundw
                          case rel => exact ⟨m + 1, by omega, by go_num, _, hidM (by rw [HS1.out]; exact HJ4.out), hidM (by rw [HS2.out]; exact HO4.out)⟩
                          case measure => simp [intOf]; omega
                    · have HST := hidM (jrK_stop n m z.2 hm hse)
                      have HKE := hidM (show k.2 = (jrK m z.2 []).2 by rw [HK2.out]; exact HST.out)
                      generalize (jrK m z.2 []).2 = sm at HJ HKE l1 hse
                      have hsb : (sm.2 == 0) = false := by simp [hse]
                      have hsb2 : (sm.2 != 0) = true := by simp [hse]
                      have HQB := hidM (show q = (0, sm) by rw [HQ.out, HKE.out, jrI_bad hse])
                      have HNB := hidM ((HNUM.out w0 sm J u HJ.out q (by rw [HQB.out, jrI_bad hse])))
                      clear HST HKE HK2
                      go_wp2_with fail
                      refine HNB.out.mono ?_
                      rintro e W8 ⟨rfl, h8, hg8⟩
                      clear HNB
                      have c6 := h8.facts.c6
                      have f6 := h8.facts.f 6
                      obtain ⟨z0, z1, z2, z3, z4, z5, z6⟩ := h8.z.cells
                      have zf0 := h8.z.free 0
                      have zf1 := h8.z.free 1
                      have zf2 := h8.z.free 2
                      have zf3 := h8.z.free 3
                      have zf4 := h8.z.free 4
                      have zf5 := h8.z.free 5
                      have zf6 := h8.z.free 6
                      have h9 := h8.set6 q.1
                      have r1 := h9.facts.r1
                      have H9 := hidM h9
                      have he : q.2.2 ≠ 0 := by rw [HQB.out]; exact hse
                      clear h8 hg8 h9 HJ HO l1 hsb hsb2 hse HQB
                      obtain ⟨qn, qs, qe⟩ := q
                      simp only at H9 r1 c6 f6 he ⊢
                      have hde : (qe != 0) = true := by simp [he]
                      have hde2 : (qe == 0) = false := by simp [he]
                      have HEB := hidM (jEnd_bad (j := ⟨a.1, p.1, g.1, b.1, f.1, qn⟩) (l := k.1) (s := (qs, qe)) he)
                      have hZ := (H9.out.z.put (.int .i64 0) (.string ⟨#[]⟩) (.int .i64 0) (.int .i64 0) (.int .i64 0) (.slice none 0 0) (.int .i64 0)).fin
                      have HLD := hidM (loadJ (hZ.below (Below.refl _ _).drew))
                      have HFIN := hidM (below7 H9.out.bel (Nat.le_refl _) (.int .i64 0) (.string ⟨#[]⟩) (.int .i64 0) (.int .i64 0) (.int .i64 0) (.slice none 0 0) (.int .i64 0)).drew
                      clear hZ he
                      go_wp2
                      go_region
                      all_goals go_wp2
                      all_goals
                        with_reducible refine bodyPost_ret (results_cellP rfl rfl HLD.out) rfl ?_
                        rw [HEB.out]
                        exact ⟨⟨_, rfl, World.ownsRow_nil _ _ _ _⟩, HFIN.out⟩
                  · have hki : ¬ (m : Int) < (n : Int) := by omega
                    have hkd : decide ((m : Int) < (n : Int)) = false := decide_eq_false hki
                    have hkd2 : decide (m < n) = false := decide_eq_false hlt
                    have hmn : m = n := by omega
                    rw [hmn, ← HK2.out] at HJ HO
                    have hklen := hidM (show k.1.length ≤ 100000 by rw [HK2.out, jrK_len]; simp; omega)
                    clear hmn hm HK2
                    go_wp2_with fail
                    refine (HNUM.out w0 _ _ _ HJ.out q HQ.out).mono ?_
                    rintro e W8 ⟨rfl, h8, hg8⟩
                    have c6 := h8.facts.c6
                    have f6 := h8.facts.f 6
                    obtain ⟨z0, z1, z2, z3, z4, z5, z6⟩ := h8.z.cells
                    have zf0 := h8.z.free 0
                    have zf1 := h8.z.free 1
                    have zf2 := h8.z.free 2
                    have zf3 := h8.z.free 3
                    have zf4 := h8.z.free 4
                    have zf5 := h8.z.free 5
                    have zf6 := h8.z.free 6
                    have h9 := h8.set6 q.1
                    have o9 := (HO.out.grown hg8 (by omega)).grown (grownBy_set W8 (w.heap.size + 1 + 1) 6 (.int .i64 q.1)) (by omega)
                    have hJF : (⟨a.1, p.1, g.1, b.1, f.1, q.1⟩ : Jb) = ⟨J.id, J.prog, J.agg, J.bound, J.fuel, q.1⟩ := by rw [HJJ.out]
                    have HJF := hidM hJF
                    obtain ⟨ua, um, uc, rfl⟩ : ∃ ua um uc, u = .slice ua um uc := by obtain ⟨a, c, e⟩ := HO.out.shape; exact ⟨_, _, _, e⟩
                    have r1 := h9.facts.r1
                    have r0 := h9.facts.r0
                    have H9 := hidM h9
                    have O9 := hidM o9
                    clear hJF h8 hg8 h9 o9 HJ HO
                    obtain ⟨qn, qs, qe⟩ := q
                    simp only at H9 O9 r0 r1 c6 f6 HJF ⊢
                    by_cases he : qe = 0
                    · subst he
                      have hne0 : ((0 : Int) != 0) = false := rfl
                      have hZ := (H9.out.z.put (.int .i64 0) (.string ⟨#[]⟩) (.int .i64 0) (.int .i64 0) (.int .i64 0) (.slice none 0 0) (.int .i64 0)).fin
                      have HLD := hidM (loadJ hZ)
                      have HFIN := hidM (below7 H9.out.bel (Nat.le_refl _) (.int .i64 0) (.string ⟨#[]⟩) (.int .i64 0) (.int .i64 0) (.int .i64 0) (.slice none 0 0) (.int .i64 0))
                      by_cases hsz : 0 < qs.size
                      · have hd : decide ((0 : Int) < (qs.size : Int)) = true := decide_eq_true (by omega)
                        have HEB := hidM (jEnd_left (j := ⟨a.1, p.1, g.1, b.1, f.1, qn⟩) (l := k.1) (s := (qs, 0)) rfl hsz)
                        have hd2 : decide (0 < qs.size) = true := decide_eq_true hsz
                        have hszi : (0 : Int) < (qs.size : Int) := by omega
                        clear hZ
                        go_wp2_with fail
                        with_reducible refine bodyPost_ret (results_cellP rfl rfl HLD.out) rfl ?_
                        rw [HEB.out]
                        exact ⟨⟨_, rfl, World.ownsRow_nil _ _ _ _⟩, HFIN.out⟩
                      · have hd : decide ((0 : Int) < (qs.size : Int)) = false := decide_eq_false (by omega)
                        have hd2 : decide (0 < qs.size) = false := decide_eq_false hsz
                        have hszi : ¬ (0 : Int) < (qs.size : Int) := by omega
                        have HC := hidM (rjob_any ⟨J.id, J.prog, J.agg, J.bound, J.fuel, qn⟩ (.slice ua um uc) k.1 _ (NS.own O9.out) hklen.out)
                        have e0 := H9.out.facts.c0
                        have e1 := H9.out.facts.c1
                        have e2 := H9.out.facts.c2
                        have e3 := H9.out.facts.c3
                        have e4 := H9.out.facts.c4
                        have e5 := H9.out.facts.c5
                        have e6 := H9.out.facts.c6
                        have HAF := hidM (show ∀ W10, Below (W8.setCell ⟨w.heap.size + 1 + 1, 6, none⟩ (.int .i64 qn)).heap.size (W8.setCell ⟨w.heap.size + 1 + 1, 6, none⟩ (.int .i64 qn)) W10 → JT 90 w W10 (qs, 0) ⟨J.id, J.prog, J.agg, J.bound, J.fuel, qn⟩ (.slice ua um uc) ∧ OwnN W10 (w.heap.size + 3) (.slice ua um uc) k.1 from fun W10 hb => ⟨H9.out.below hb, O9.out.below hb⟩)
                        clear hZ HLD HFIN z0 z1 z2 z3 z4 z5 z6 zf0 zf1 zf2 zf3 zf4 zf5 zf6
                        cases hjb : jobB ⟨J.id, J.prog, J.agg, J.bound, J.fuel, qn⟩ k.1 with
                        | false =>
                          rw [hjb] at HC
                          have HEB := hidM (jEnd_may (j := ⟨a.1, p.1, g.1, b.1, f.1, qn⟩) (l := k.1) (s := (qs, 0)) rfl (by rw [HJF.out]; exact hjb))
                          clear hjb
                          go_wp2_with fail
                          refine HC.out.mono ?_
                          rintro e W10 ⟨rfl, hb10⟩
                          obtain ⟨h10, -⟩ := HAF.out W10 hb10
                          obtain ⟨z0, z1, z2, z3, z4, z5, z6⟩ := h10.z.cells
                          have zf0 := h10.z.free 0
                          have zf1 := h10.z.free 1
                          have zf2 := h10.z.free 2
                          have zf3 := h10.z.free 3
                          have zf4 := h10.z.free 4
                          have zf5 := h10.z.free 5
                          have zf6 := h10.z.free 6
                          have HLD := hidM (loadJ (h10.z.put (.int .i64 0) (.string ⟨#[]⟩) (.int .i64 0) (.int .i64 0) (.int .i64 0) (.slice none 0 0) (.int .i64 0)).fin)
                          have HFIN := hidM (below7 h10.bel (Nat.le_refl _) (.int .i64 0) (.string ⟨#[]⟩) (.int .i64 0) (.int .i64 0) (.int .i64 0) (.slice none 0 0) (.int .i64 0))
                          clear h10 hb10
                          go_wp2
                          with_reducible refine bodyPost_ret (results_cellP rfl rfl HLD.out) rfl ?_
                          rw [HEB.out]
                          exact ⟨⟨_, rfl, World.ownsRow_nil _ _ _ _⟩, HFIN.out⟩
                        | true =>
                          rw [hjb] at HC
                          have HEB := hidM (jEnd_ok (j := ⟨a.1, p.1, g.1, b.1, f.1, qn⟩) (l := k.1) (s := (qs, 0)) rfl hsz (by rw [HJF.out]; exact hjb))
                          clear hjb
                          go_wp2_with fail
                          refine HC.out.mono ?_
                          rintro e W10 ⟨rfl, hb10⟩
                          obtain ⟨h10, o10⟩ := HAF.out W10 hb10
                          obtain ⟨z0, z1, z2, z3, z4, z5, z6⟩ := h10.z.cells
                          have zf0 := h10.z.free 0
                          have zf1 := h10.z.free 1
                          have zf2 := h10.z.free 2
                          have zf3 := h10.z.free 3
                          have zf4 := h10.z.free 4
                          have zf5 := h10.z.free 5
                          have zf6 := h10.z.free 6
                          have e0 := h10.facts.c0
                          have e1 := h10.facts.c1
                          have e2 := h10.facts.c2
                          have e3 := h10.facts.c3
                          have e4 := h10.facts.c4
                          have e5 := h10.facts.c5
                          have e6 := h10.facts.c6
                          have HLD := hidM (loadJ (h10.z.put (.int .i64 J.id) (.string J.prog) (.int .i64 J.agg) (.int .i64 J.bound) (.int .i64 J.fuel) (.slice ua um uc) (.int .i64 qn)).fin)
                          have HFIN := hidM (below7 h10.bel (Nat.le_refl _) (.int .i64 J.id) (.string J.prog) (.int .i64 J.agg) (.int .i64 J.bound) (.int .i64 J.fuel) (.slice ua um uc) (.int .i64 qn))
                          have HOW := hidM (own7 (b := w.heap.size) o10 (by omega) (.int .i64 J.id) (.string J.prog) (.int .i64 J.agg) (.int .i64 J.bound) (.int .i64 J.fuel) (.slice ua um uc) (.int .i64 qn))
                          clear h10 hb10 o10
                          go_wp2
                          with_reducible refine bodyPost_ret (results_cellP rfl rfl HLD.out) rfl ?_
                          rw [HEB.out, HJF.out]
                          exact ⟨⟨_, rfl, OwnN.down HOW.out (by omega)⟩, HFIN.out⟩
                    · have hde : (qe != 0) = true := by simp [he]
                      have hde2 : (qe == 0) = false := by simp [he]
                      have HEB := hidM (jEnd_bad (j := ⟨a.1, p.1, g.1, b.1, f.1, qn⟩) (l := k.1) (s := (qs, qe)) he)
                      have hZ := (H9.out.z.put (.int .i64 0) (.string ⟨#[]⟩) (.int .i64 0) (.int .i64 0) (.int .i64 0) (.slice none 0 0) (.int .i64 0)).fin
                      have HLD := hidM (loadJ (hZ.below (Below.refl _ _).drew))
                      have HFIN := hidM (below7 H9.out.bel (Nat.le_refl _) (.int .i64 0) (.string ⟨#[]⟩) (.int .i64 0) (.int .i64 0) (.int .i64 0) (.slice none 0 0) (.int .i64 0)).drew
                      clear hZ he
                      go_wp2
                      go_region
                      all_goals go_wp2
                      all_goals
                        with_reducible refine bodyPost_ret (results_cellP rfl rfl HLD.out) rfl ?_
                        rw [HEB.out]
                        exact ⟨⟨_, rfl, World.ownsRow_nil _ _ _ _⟩, HFIN.out⟩
          · have hzd : (ze != 0) = true := by simp [hze]
            have hzd2 : (ze == 0) = false := by simp [hze]
            have hzn : zn = 0 := by have := jrI_zero (s := f.2) (by rw [← HN2.out]; exact hze); rwa [← HN2.out] at this
            obtain ⟨n, rfl⟩ : ∃ n : Nat, zn = (n : Int) := ⟨zn.toNat, by omega⟩
            have hzz : z = ((n : Int), (zs, ze)) := by rw [HZ.out, jrZ_err (by decide) (by rw [← HN2.out]; exact hze), ← HN2.out]
            have hn6 : n ≤ 6 := by omega
            obtain ⟨J, hJ⟩ : ∃ J : Jb, J = ⟨a.1, p.1, g.1, b.1, f.1, 0⟩ := ⟨_, rfl⟩
            have H8 : Hid (JT 90 w W8 z.2 J (.slice none 0 0)) := hidM (by rw [hzz, hJ]; exact h8)
            have HK2 : Hid (k = jrK n z.2 []) := hidM (by have := HK.out; rw [hzz] at this ⊢; simpa only [Int.toNat_natCast] using this)
            have HJJ := hidM hJ
            have hz6 : ¬ 6 < n := by omega
            have hz7 : ¬ (6 : Int) < (n : Int) := by omega
            have hz8 : decide ((6 : Int) < (n : Int)) = false := decide_eq_false hz7
            have hz9 : ¬ (n : Int) < 0 := by omega
            have hzA : decide ((n : Int) < 0) = false := decide_eq_false hz9
            have hzB : decide (6 < n) = false := decide_eq_false hz6
            clear h8 hJ HK hzz HN2
            go_wp2
            go_loopw [7] (fun i wr => ∃ m : Nat, m ≤ n ∧ i = .int .i64 m ∧ ∃ u, Hid (JT 90 w wr (jrK m z.2 []).2 J u) ∧ Hid (OwnN wr (w.heap.size + 3) u (jrK m z.2 []).1)) (fun i _ => n - (intOf i).toNat)
            case atStart => exact ⟨0, by omega, rfl, _, H8, hidM (World.ownsRow_nil _ _ _ _)⟩
            case round =>
              rename World => w0
              obtain ⟨m, hm, rfl, u, HJ, HO⟩ := hrel
              clear H8
              by_cases hlt : m < n
              · exact absurd hlt (by omega)
              · have hki : ¬ (m : Int) < (n : Int) := by omega
                have hkd : decide ((m : Int) < (n : Int)) = false := decide_eq_false hki
                have hkd2 : decide (m < n) = false := decide_eq_false hlt
                have hmn : m = n := by omega
                rw [hmn, ← HK2.out] at HJ HO
                have hklen := hidM (show k.1.length ≤ 100000 by rw [HK2.out, jrK_len]; simp; omega)
                clear hmn hm HK2
                go_wp2_with fail
                refine (HNUM.out w0 _ _ _ HJ.out q HQ.out).mono ?_
                rintro e W8 ⟨rfl, h8, hg8⟩
                have c6 := h8.facts.c6
                have f6 := h8.facts.f 6
                obtain ⟨z0, z1, z2, z3, z4, z5, z6⟩ := h8.z.cells
                have zf0 := h8.z.free 0
                have zf1 := h8.z.free 1
                have zf2 := h8.z.free 2
                have zf3 := h8.z.free 3
                have zf4 := h8.z.free 4
                have zf5 := h8.z.free 5
                have zf6 := h8.z.free 6
                have h9 := h8.set6 q.1
                have o9 := (HO.out.grown hg8 (by omega)).grown (grownBy_set W8 (w.heap.size + 1 + 1) 6 (.int .i64 q.1)) (by omega)
                have hJF : (⟨a.1, p.1, g.1, b.1, f.1, q.1⟩ : Jb) = ⟨J.id, J.prog, J.agg, J.bound, J.fuel, q.1⟩ := by rw [HJJ.out]
                have HJF := hidM hJF
                obtain ⟨ua, um, uc, rfl⟩ : ∃ ua um uc, u = .slice ua um uc := by obtain ⟨a, c, e⟩ := HO.out.shape; exact ⟨_, _, _, e⟩
                have r1 := h9.facts.r1
                have r0 := h9.facts.r0
                have H9 := hidM h9
                have O9 := hidM o9
                clear hJF h8 hg8 h9 o9 HJ HO
                obtain ⟨qn, qs, qe⟩ := q
                simp only at H9 O9 r0 r1 c6 f6 HJF ⊢
                by_cases he : qe = 0
                · subst he
                  have hne0 : ((0 : Int) != 0) = false := rfl
                  have hZ := (H9.out.z.put (.int .i64 0) (.string ⟨#[]⟩) (.int .i64 0) (.int .i64 0) (.int .i64 0) (.slice none 0 0) (.int .i64 0)).fin
                  have HLD := hidM (loadJ hZ)
                  have HFIN := hidM (below7 H9.out.bel (Nat.le_refl _) (.int .i64 0) (.string ⟨#[]⟩) (.int .i64 0) (.int .i64 0) (.int .i64 0) (.slice none 0 0) (.int .i64 0))
                  by_cases hsz : 0 < qs.size
                  · have hd : decide ((0 : Int) < (qs.size : Int)) = true := decide_eq_true (by omega)
                    have HEB := hidM (jEnd_left (j := ⟨a.1, p.1, g.1, b.1, f.1, qn⟩) (l := k.1) (s := (qs, 0)) rfl hsz)
                    have hd2 : decide (0 < qs.size) = true := decide_eq_true hsz
                    have hszi : (0 : Int) < (qs.size : Int) := by omega
                    clear hZ
                    go_wp2_with fail
                    with_reducible refine bodyPost_ret (results_cellP rfl rfl HLD.out) rfl ?_
                    rw [HEB.out]
                    exact ⟨⟨_, rfl, World.ownsRow_nil _ _ _ _⟩, HFIN.out⟩
                  · have hd : decide ((0 : Int) < (qs.size : Int)) = false := decide_eq_false (by omega)
                    have hd2 : decide (0 < qs.size) = false := decide_eq_false hsz
                    have hszi : ¬ (0 : Int) < (qs.size : Int) := by omega
                    have HC := hidM (rjob_any ⟨J.id, J.prog, J.agg, J.bound, J.fuel, qn⟩ (.slice ua um uc) k.1 _ (NS.own O9.out) hklen.out)
                    have e0 := H9.out.facts.c0
                    have e1 := H9.out.facts.c1
                    have e2 := H9.out.facts.c2
                    have e3 := H9.out.facts.c3
                    have e4 := H9.out.facts.c4
                    have e5 := H9.out.facts.c5
                    have e6 := H9.out.facts.c6
                    have HAF := hidM (show ∀ W10, Below (W8.setCell ⟨w.heap.size + 1 + 1, 6, none⟩ (.int .i64 qn)).heap.size (W8.setCell ⟨w.heap.size + 1 + 1, 6, none⟩ (.int .i64 qn)) W10 → JT 90 w W10 (qs, 0) ⟨J.id, J.prog, J.agg, J.bound, J.fuel, qn⟩ (.slice ua um uc) ∧ OwnN W10 (w.heap.size + 3) (.slice ua um uc) k.1 from fun W10 hb => ⟨H9.out.below hb, O9.out.below hb⟩)
                    clear hZ HLD HFIN z0 z1 z2 z3 z4 z5 z6 zf0 zf1 zf2 zf3 zf4 zf5 zf6
                    cases hjb : jobB ⟨J.id, J.prog, J.agg, J.bound, J.fuel, qn⟩ k.1 with
                    | false =>
                      rw [hjb] at HC
                      have HEB := hidM (jEnd_may (j := ⟨a.1, p.1, g.1, b.1, f.1, qn⟩) (l := k.1) (s := (qs, 0)) rfl (by rw [HJF.out]; exact hjb))
                      clear hjb
                      go_wp2_with fail
                      refine HC.out.mono ?_
                      rintro e W10 ⟨rfl, hb10⟩
                      obtain ⟨h10, -⟩ := HAF.out W10 hb10
                      obtain ⟨z0, z1, z2, z3, z4, z5, z6⟩ := h10.z.cells
                      have zf0 := h10.z.free 0
                      have zf1 := h10.z.free 1
                      have zf2 := h10.z.free 2
                      have zf3 := h10.z.free 3
                      have zf4 := h10.z.free 4
                      have zf5 := h10.z.free 5
                      have zf6 := h10.z.free 6
                      have HLD := hidM (loadJ (h10.z.put (.int .i64 0) (.string ⟨#[]⟩) (.int .i64 0) (.int .i64 0) (.int .i64 0) (.slice none 0 0) (.int .i64 0)).fin)
                      have HFIN := hidM (below7 h10.bel (Nat.le_refl _) (.int .i64 0) (.string ⟨#[]⟩) (.int .i64 0) (.int .i64 0) (.int .i64 0) (.slice none 0 0) (.int .i64 0))
                      clear h10 hb10
                      go_wp2
                      with_reducible refine bodyPost_ret (results_cellP rfl rfl HLD.out) rfl ?_
                      rw [HEB.out]
                      exact ⟨⟨_, rfl, World.ownsRow_nil _ _ _ _⟩, HFIN.out⟩
                    | true =>
                      rw [hjb] at HC
                      have HEB := hidM (jEnd_ok (j := ⟨a.1, p.1, g.1, b.1, f.1, qn⟩) (l := k.1) (s := (qs, 0)) rfl hsz (by rw [HJF.out]; exact hjb))
                      clear hjb
                      go_wp2_with fail
                      refine HC.out.mono ?_
                      rintro e W10 ⟨rfl, hb10⟩
                      obtain ⟨h10, o10⟩ := HAF.out W10 hb10
                      obtain ⟨z0, z1, z2, z3, z4, z5, z6⟩ := h10.z.cells
                      have zf0 := h10.z.free 0
                      have zf1 := h10.z.free 1
                      have zf2 := h10.z.free 2
                      have zf3 := h10.z.free 3
                      have zf4 := h10.z.free 4
                      have zf5 := h10.z.free 5
                      have zf6 := h10.z.free 6
                      have e0 := h10.facts.c0
                      have e1 := h10.facts.c1
                      have e2 := h10.facts.c2
                      have e3 := h10.facts.c3
                      have e4 := h10.facts.c4
                      have e5 := h10.facts.c5
                      have e6 := h10.facts.c6
                      have HLD := hidM (loadJ (h10.z.put (.int .i64 J.id) (.string J.prog) (.int .i64 J.agg) (.int .i64 J.bound) (.int .i64 J.fuel) (.slice ua um uc) (.int .i64 qn)).fin)
                      have HFIN := hidM (below7 h10.bel (Nat.le_refl _) (.int .i64 J.id) (.string J.prog) (.int .i64 J.agg) (.int .i64 J.bound) (.int .i64 J.fuel) (.slice ua um uc) (.int .i64 qn))
                      have HOW := hidM (own7 (b := w.heap.size) o10 (by omega) (.int .i64 J.id) (.string J.prog) (.int .i64 J.agg) (.int .i64 J.bound) (.int .i64 J.fuel) (.slice ua um uc) (.int .i64 qn))
                      clear h10 hb10 o10
                      go_wp2
                      with_reducible refine bodyPost_ret (results_cellP rfl rfl HLD.out) rfl ?_
                      rw [HEB.out, HJF.out]
                      exact ⟨⟨_, rfl, OwnN.down HOW.out (by omega)⟩, HFIN.out⟩
                · have hde : (qe != 0) = true := by simp [he]
                  have hde2 : (qe == 0) = false := by simp [he]
                  have HEB := hidM (jEnd_bad (j := ⟨a.1, p.1, g.1, b.1, f.1, qn⟩) (l := k.1) (s := (qs, qe)) he)
                  have hZ := (H9.out.z.put (.int .i64 0) (.string ⟨#[]⟩) (.int .i64 0) (.int .i64 0) (.int .i64 0) (.slice none 0 0) (.int .i64 0)).fin
                  have HLD := hidM (loadJ (hZ.below (Below.refl _ _).drew))
                  have HFIN := hidM (below7 H9.out.bel (Nat.le_refl _) (.int .i64 0) (.string ⟨#[]⟩) (.int .i64 0) (.int .i64 0) (.int .i64 0) (.slice none 0 0) (.int .i64 0)).drew
                  clear hZ he
                  go_wp2
                  go_region
                  all_goals go_wp2
                  all_goals
                    with_reducible refine bodyPost_ret (results_cellP rfl rfl HLD.out) rfl ?_
                    rw [HEB.out]
                    exact ⟨⟨_, rfl, World.ownsRow_nil _ _ _ _⟩, HFIN.out⟩
  · have hde : (ne != 0) = true := by simp [he1]
    have hde2 : (ne == 0) = false := by simp [he1]
    have HPE := hidM (show p = (⟨#[]⟩, (ns, ne)) by rw [HP.out, jrX_err (by rw [← HN1.out]; exact he1), ← HN1.out])
    have h3 : JT 90 w W2 p.2 ⟨a.1, p.1, 0, 0, 0, 0⟩ (.slice none 0 0) := by
      have : p = (⟨#[]⟩, (ns, ne)) := by rw [HP.out, jrX_err (by rw [← HN1.out]; exact he1), ← HN1.out]
      rw [this]
      exact h2
    have H3 := hidM h3
    clear h2 h3
    go_wp2_with fail
    refine (HNUM.out _ p.2 _ _ H3.out g HG.out).mono ?_
    rintro e W4 ⟨rfl, h4, -⟩
    have H4 := hidM h4
    clear h4 H3
    go_wp2_with fail
    refine (HNUM.out _ g.2 _ _ H4.out b HBB.out).mono ?_
    rintro e W5 ⟨rfl, h5, -⟩
    have H5 := hidM h5
    clear h5 H4
    go_wp2_with fail
    refine (HNUM.out _ b.2 _ _ H5.out f HFF.out).mono ?_
    rintro e W6 ⟨rfl, h6, -⟩
    have c2 := h6.facts.c2
    have c3 := h6.facts.c3
    have c4 := h6.facts.c4
    have f2 := h6.facts.f 2
    have f3 := h6.facts.f 3
    have f4 := h6.facts.f 4
    have H7 := hidM (((h6.set2 g.1).set3 b.1).set4 f.1)
    clear h6 H5
    go_wp2_with fail
    obtain ⟨n2, hn2⟩ : ∃ n2, n2 = jrI f.2 := ⟨_, rfl⟩
    refine (HNUM.out _ f.2 _ _ H7.out n2 hn2).mono ?_
    rintro e W8 ⟨rfl, h8, -⟩
    have r1 := h8.facts.r1
    have HN2 := hidM hn2
    clear c2 c3 c4 f2 f3 f4 H7 hn2
    obtain ⟨zn, zs, ze⟩ := n2
    simp only at h8 r1
    have hze : ze ≠ 0 := by
      have e1 : g = (0, p.2) := by rw [HG.out, jrI_bad (by rw [HPE.out]; exact he1)]
      have e2 : b = (0, p.2) := by rw [HBB.out, e1, jrI_bad (by rw [HPE.out]; exact he1)]
      have e3 : f = (0, p.2) := by rw [HFF.out, e2, jrI_bad (by rw [HPE.out]; exact he1)]
      have e4 := HN2.out
      rw [e3, jrI_bad (by rw [HPE.out]; exact he1), HPE.out] at e4
      injection e4 with _ e4
      injection e4 with _ e4
      rw [e4]
      exact he1
    have hzd : (ze != 0) = true := by simp [hze]
    have hzd2 : (ze == 0) = false := by simp [hze]
    have hzn : zn = 0 := by have := jrI_zero (s := f.2) (by rw [← HN2.out]; exact hze); rwa [← HN2.out] at this
    obtain ⟨n, rfl⟩ : ∃ n : Nat, zn = (n : Int) := ⟨zn.toNat, by omega⟩
    have hzz : z = ((n : Int), (zs, ze)) := by rw [HZ.out, jrZ_err (by decide) (by rw [← HN2.out]; exact hze), ← HN2.out]
    have hn6 : n ≤ 6 := by omega
    obtain ⟨J, hJ⟩ : ∃ J : Jb, J = ⟨a.1, p.1, g.1, b.1, f.1, 0⟩ := ⟨_, rfl⟩
    have H8 : Hid (JT 90 w W8 z.2 J (.slice none 0 0)) := hidM (by rw [hzz, hJ]; exact h8)
    have HK2 : Hid (k = jrK n z.2 []) := hidM (by have := HK.out; rw [hzz] at this ⊢; simpa only [Int.toNat_natCast] using this)
    have HJJ := hidM hJ
    have hz6 : ¬ 6 < n := by omega
    have hz7 : ¬ (6 : Int) < (n : Int) := by omega
    have hz8 : decide ((6 : Int) < (n : Int)) = false := decide_eq_false hz7
    have hz9 : ¬ (n : Int) < 0 := by omega
    have hzA : decide ((n : Int) < 0) = false := decide_eq_false hz9
    have hzB : decide (6 < n) = false := decide_eq_false hz6
    clear h8 hJ HK hzz HN2
    go_wp2
    go_loopw [7] (fun i wr => ∃ m : Nat, m ≤ n ∧ i = .int .i64 m ∧ ∃ u, Hid (JT 90 w wr (jrK m z.2 []).2 J u) ∧ Hid (OwnN wr (w.heap.size + 3) u (jrK m z.2 []).1)) (fun i _ => n - (intOf i).toNat)
    case atStart => exact ⟨0, by omega, rfl, _, H8, hidM (World.ownsRow_nil _ _ _ _)⟩
    case round =>
      rename World => w0
      obtain ⟨m, hm, rfl, u, HJ, HO⟩ := hrel
      clear H8
      by_cases hlt : m < n
      · exact absurd hlt (by omega)
      · have hki : ¬ (m : Int) < (n : Int) := by omega
        have hkd : decide ((m : Int) < (n : Int)) = false := decide_eq_false hki
        have hkd2 : decide (m < n) = false := decide_eq_false hlt
        have hmn : m = n := by omega
        rw [hmn, ← HK2.out] at HJ HO
        have hklen := hidM (show k.1.length ≤ 100000 by rw [HK2.out, jrK_len]; simp; omega)
        clear hmn hm HK2
        go_wp2_with fail
        refine (HNUM.out w0 _ _ _ HJ.out q HQ.out).mono ?_
        rintro e W8 ⟨rfl, h8, hg8⟩
        have c6 := h8.facts.c6
        have f6 := h8.facts.f 6
        obtain ⟨z0, z1, z2, z3, z4, z5, z6⟩ := h8.z.cells
        have zf0 := h8.z.free 0
        have zf1 := h8.z.free 1
        have zf2 := h8.z.free 2
        have zf3 := h8.z.free 3
        have zf4 := h8.z.free 4
        have zf5 := h8.z.free 5
        have zf6 := h8.z.free 6
        have h9 := h8.set6 q.1
        have o9 := (HO.out.grown hg8 (by omega)).grown (grownBy_set W8 (w.heap.size + 1 + 1) 6 (.int .i64 q.1)) (by omega)
        have hJF : (⟨a.1, p.1, g.1, b.1, f.1, q.1⟩ : Jb) = ⟨J.id, J.prog, J.agg, J.bound, J.fuel, q.1⟩ := by rw [HJJ.out]
        have HJF := hidM hJF
        obtain ⟨ua, um, uc, rfl⟩ : ∃ ua um uc, u = .slice ua um uc := by obtain ⟨a, c, e⟩ := HO.out.shape; exact ⟨_, _, _, e⟩
        have r1 := h9.facts.r1
        have r0 := h9.facts.r0
        have H9 := hidM h9
        have O9 := hidM o9
        clear hJF h8 hg8 h9 o9 HJ HO
        obtain ⟨qn, qs, qe⟩ := q
        simp only at H9 O9 r0 r1 c6 f6 HJF ⊢
        by_cases he : qe = 0
        · subst he
          have hne0 : ((0 : Int) != 0) = false := rfl
          have hZ := (H9.out.z.put (.int .i64 0) (.string ⟨#[]⟩) (.int .i64 0) (.int .i64 0) (.int .i64 0) (.slice none 0 0) (.int .i64 0)).fin
          have HLD := hidM (loadJ hZ)
          have HFIN := hidM (below7 H9.out.bel (Nat.le_refl _) (.int .i64 0) (.string ⟨#[]⟩) (.int .i64 0) (.int .i64 0) (.int .i64 0) (.slice none 0 0) (.int .i64 0))
          by_cases hsz : 0 < qs.size
          · have hd : decide ((0 : Int) < (qs.size : Int)) = true := decide_eq_true (by omega)
            have HEB := hidM (jEnd_left (j := ⟨a.1, p.1, g.1, b.1, f.1, qn⟩) (l := k.1) (s := (qs, 0)) rfl hsz)
            have hd2 : decide (0 < qs.size) = true := decide_eq_true hsz
            have hszi : (0 : Int) < (qs.size : Int) := by omega
            clear hZ
            go_wp2_with fail
            with_reducible refine bodyPost_ret (results_cellP rfl rfl HLD.out) rfl ?_
            rw [HEB.out]
            exact ⟨⟨_, rfl, World.ownsRow_nil _ _ _ _⟩, HFIN.out⟩
          · have hd : decide ((0 : Int) < (qs.size : Int)) = false := decide_eq_false (by omega)
            have hd2 : decide (0 < qs.size) = false := decide_eq_false hsz
            have hszi : ¬ (0 : Int) < (qs.size : Int) := by omega
            have HC := hidM (rjob_any ⟨J.id, J.prog, J.agg, J.bound, J.fuel, qn⟩ (.slice ua um uc) k.1 _ (NS.own O9.out) hklen.out)
            have e0 := H9.out.facts.c0
            have e1 := H9.out.facts.c1
            have e2 := H9.out.facts.c2
            have e3 := H9.out.facts.c3
            have e4 := H9.out.facts.c4
            have e5 := H9.out.facts.c5
            have e6 := H9.out.facts.c6
            have HAF := hidM (show ∀ W10, Below (W8.setCell ⟨w.heap.size + 1 + 1, 6, none⟩ (.int .i64 qn)).heap.size (W8.setCell ⟨w.heap.size + 1 + 1, 6, none⟩ (.int .i64 qn)) W10 → JT 90 w W10 (qs, 0) ⟨J.id, J.prog, J.agg, J.bound, J.fuel, qn⟩ (.slice ua um uc) ∧ OwnN W10 (w.heap.size + 3) (.slice ua um uc) k.1 from fun W10 hb => ⟨H9.out.below hb, O9.out.below hb⟩)
            clear hZ HLD HFIN z0 z1 z2 z3 z4 z5 z6 zf0 zf1 zf2 zf3 zf4 zf5 zf6
            cases hjb : jobB ⟨J.id, J.prog, J.agg, J.bound, J.fuel, qn⟩ k.1 with
            | false =>
              rw [hjb] at HC
              have HEB := hidM (jEnd_may (j := ⟨a.1, p.1, g.1, b.1, f.1, qn⟩) (l := k.1) (s := (qs, 0)) rfl (by rw [HJF.out]; exact hjb))
              clear hjb
              go_wp2_with fail
              refine HC.out.mono ?_
              rintro e W10 ⟨rfl, hb10⟩
              obtain ⟨h10, -⟩ := HAF.out W10 hb10
              obtain ⟨z0, z1, z2, z3, z4, z5, z6⟩ := h10.z.cells
              have zf0 := h10.z.free 0
              have zf1 := h10.z.free 1
              have zf2 := h10.z.free 2
              have zf3 := h10.z.free 3
              have zf4 := h10.z.free 4
              have zf5 := h10.z.free 5
              have zf6 := h10.z.free 6
              have HLD := hidM (loadJ (h10.z.put (.int .i64 0) (.string ⟨#[]⟩) (.int .i64 0) (.int .i64 0) (.int .i64 0) (.slice none 0 0) (.int .i64 0)).fin)
              have HFIN := hidM (below7 h10.bel (Nat.le_refl _) (.int .i64 0) (.string ⟨#[]⟩) (.int .i64 0) (.int .i64 0) (.int .i64 0) (.slice none 0 0) (.int .i64 0))
              clear h10 hb10
              go_wp2
              with_reducible refine bodyPost_ret (results_cellP rfl rfl HLD.out) rfl ?_
              rw [HEB.out]
              exact ⟨⟨_, rfl, World.ownsRow_nil _ _ _ _⟩, HFIN.out⟩
            | true =>
              rw [hjb] at HC
              have HEB := hidM (jEnd_ok (j := ⟨a.1, p.1, g.1, b.1, f.1, qn⟩) (l := k.1) (s := (qs, 0)) rfl hsz (by rw [HJF.out]; exact hjb))
              clear hjb
              go_wp2_with fail
              refine HC.out.mono ?_
              rintro e W10 ⟨rfl, hb10⟩
              obtain ⟨h10, o10⟩ := HAF.out W10 hb10
              obtain ⟨z0, z1, z2, z3, z4, z5, z6⟩ := h10.z.cells
              have zf0 := h10.z.free 0
              have zf1 := h10.z.free 1
              have zf2 := h10.z.free 2
              have zf3 := h10.z.free 3
              have zf4 := h10.z.free 4
              have zf5 := h10.z.free 5
              have zf6 := h10.z.free 6
              have e0 := h10.facts.c0
              have e1 := h10.facts.c1
              have e2 := h10.facts.c2
              have e3 := h10.facts.c3
              have e4 := h10.facts.c4
              have e5 := h10.facts.c5
              have e6 := h10.facts.c6
              have HLD := hidM (loadJ (h10.z.put (.int .i64 J.id) (.string J.prog) (.int .i64 J.agg) (.int .i64 J.bound) (.int .i64 J.fuel) (.slice ua um uc) (.int .i64 qn)).fin)
              have HFIN := hidM (below7 h10.bel (Nat.le_refl _) (.int .i64 J.id) (.string J.prog) (.int .i64 J.agg) (.int .i64 J.bound) (.int .i64 J.fuel) (.slice ua um uc) (.int .i64 qn))
              have HOW := hidM (own7 (b := w.heap.size) o10 (by omega) (.int .i64 J.id) (.string J.prog) (.int .i64 J.agg) (.int .i64 J.bound) (.int .i64 J.fuel) (.slice ua um uc) (.int .i64 qn))
              clear h10 hb10 o10
              go_wp2
              with_reducible refine bodyPost_ret (results_cellP rfl rfl HLD.out) rfl ?_
              rw [HEB.out, HJF.out]
              exact ⟨⟨_, rfl, OwnN.down HOW.out (by omega)⟩, HFIN.out⟩
        · have hde : (qe != 0) = true := by simp [he]
          have hde2 : (qe == 0) = false := by simp [he]
          have HEB := hidM (jEnd_bad (j := ⟨a.1, p.1, g.1, b.1, f.1, qn⟩) (l := k.1) (s := (qs, qe)) he)
          have hZ := (H9.out.z.put (.int .i64 0) (.string ⟨#[]⟩) (.int .i64 0) (.int .i64 0) (.int .i64 0) (.slice none 0 0) (.int .i64 0)).fin
          have HLD := hidM (loadJ (hZ.below (Below.refl _ _).drew))
          have HFIN := hidM (below7 H9.out.bel (Nat.le_refl _) (.int .i64 0) (.string ⟨#[]⟩) (.int .i64 0) (.int .i64 0) (.int .i64 0) (.slice none 0 0) (.int .i64 0)).drew
          clear hZ he
          go_wp2
          go_region
          all_goals go_wp2
          all_goals
            with_reducible refine bodyPost_ret (results_cellP rfl rfl HLD.out) rfl ?_
            rw [HEB.out]
            exact ⟨⟨_, rfl, World.ownsRow_nil _ _ _ _⟩, HFIN.out⟩
end Go.Proofs.YtclcgakfmcofaaaGreatDoor
