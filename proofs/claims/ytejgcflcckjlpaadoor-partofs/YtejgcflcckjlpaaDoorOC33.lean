/- The bytes of rows; strings.Builder off the shelf; row.Bytes of rows that may be. -/
import Derived.Test.YtejgcflcckjlpaaDoorOC32
import Derived.Test.YtejgcflcckjlpaaDoorOC28
import Derived.Test.YtejgcflcckjlpaaDoorOC21
import Derived.Test.YtejgcflcckjlpaaDoorRows
import Derived.Shelf.Lay
import Derived.Shelf.Strings.Builder1
import Derived.WalkKit
namespace Go.Proofs.YtejgcflcckjlpaaDoor
open Go.RowKit
set_option linter.unusedVariables false

def rowBy (agg : Int) (r : Rw) : ByteArray := kBytes r.1 ++ cBytes agg r.2
def rowsBy (agg : Int) : List Rw → ByteArray
  | [] => ⟨#[]⟩
  | r :: l => rowBy agg r ++ rowsBy agg l
theorem rowsBy_snoc (agg : Int) (l : List Rw) (r : Rw) : rowsBy agg (l ++ [r]) = rowsBy agg l ++ rowBy agg r := by
  induction l with
  | nil =>
    show rowBy agg r ++ ⟨#[]⟩ = ⟨#[]⟩ ++ rowBy agg r
    apply ba_ext
    simp [ByteArray.data_append]
  | cons a l ih =>
    show rowBy agg a ++ rowsBy agg (l ++ [r]) = rowBy agg a ++ rowsBy agg l ++ rowBy agg r
    rw [ih]
    apply ba_ext
    simp [ByteArray.data_append]
theorem bytes_pos (n : Int) : 1 ≤ (bytesOf n).size := by
  rw [bytesOf_size]
  unfold grp
  split <;> simp
theorem rowBy_size {agg : Int} {r : Rw} (hk : r.1.2.size ≤ 64) (hc : r.2.2.length ≤ 32) : 1 ≤ (rowBy agg r).size ∧ (rowBy agg r).size ≤ 500 := by
  unfold rowBy kBytes
  simp only [ByteArray.size_append]
  have h1 := bytes_len r.1.1
  have h2 := bytes_len (r.1.2.size : Int)
  have h3 := cBytes_len (agg := agg) (c := r.2)
  have h4 := bytes_pos r.1.1
  omega
theorem rowsBy_size {agg : Int} : ∀ {l : List Rw}, (∀ r ∈ l, r.1.2.size ≤ 64 ∧ r.2.2.length ≤ 32) → (rowsBy agg l).size ≤ 500 * l.length
  | [], _ => Nat.le_refl 0
  | r :: l, h => by
    have h1 := rowsBy_size (agg := agg) (l := l) (fun x hx => h x (by simp [hx]))
    have h2 := rowBy_size (agg := agg) (h r (by simp)).1 (h r (by simp)).2
    show (rowBy agg r ++ rowsBy agg l).size ≤ _
    rw [ByteArray.size_append, List.length_cons]
    omega
theorem rowsBy_drop {agg : Int} {l : List Rw} {k : Nat} {r : Rw} (hr : l[k]? = some r) : rowsBy agg (l.drop k) = kBytes r.1 ++ (cBytes agg r.2 ++ rowsBy agg (l.drop (k + 1))) := by
  have : l.drop k = r :: l.drop (k + 1) := by
    obtain ⟨hk, rfl⟩ := List.getElem?_eq_some_iff.1 hr
    exact List.drop_eq_getElem_cons hk
  rw [this]
  show rowBy agg r ++ _ = _
  unfold rowBy
  apply ba_ext
  simp [ByteArray.data_append]
end Go.Proofs.YtejgcflcckjlpaaDoor
namespace Go.Proofs.YtejgcflcckjlpaaDoor
open Go.RowKit Go.Shelf
set_option linter.unusedVariables false
set_option maxRecDepth 100000

shelf_lay Lays.n169 Nm 169 at Tryd as Tryd.lays169
theorem Tryd.Builder_Extra_169 : Builder.Extra Tryd.prog Tryd.lays169_ren where
  sizeBuilder := by kernel_rfl
  liesBuilder := by kernel_rfl
  t5 := Tryd.underlying5
  a5 := Tryd.isAgg5
  z5 := Tryd.sizeOf5
  v5 := Tryd.zeroValue5
  infoByte := by kernel_rfl
  cellsByte := by kernel_rfl
  sizeByte := by kernel_rfl
  neB5 := by decide

/-- A Builder of the call's own at block b holds the bytes of s. -/
def Bld (B b : Nat) (s : ByteArray) (w : World) : Prop := Lib.IsBuilder 70 5 B b (Lib.strCells s) w
theorem owns_below {w w' : World} {base n size : Nat} {e : TypeId} {v : Value} {xs : List Value} (h : w.ownsRow base e size v n xs) (hb : Below w.heap.size w w') : w'.ownsRow base e size v n xs := by
  refine ⟨h.1, ?_⟩
  rcases h.2 with ⟨h1, h2⟩ | ⟨g, cap, cur, h1, h2, h3, h4⟩
  · exact .inl ⟨h1, h2⟩
  · exact .inr ⟨g, cap, cur, h1, h2, by rw [hb.block g (Array.getElem?_eq_some_iff.1 h3).1]; exact h3, h4⟩
theorem bat_below {T e : TypeId} {B b : Nat} {p : Value} {bs : List Value} {w w' : World} (h : Lib.BuilderAt T e B b p bs w) (hb : Below w.heap.size w w') : Lib.BuilderAt T e B b p bs w' := by
  have hlt := h.lt
  obtain ⟨h1, v, h2, h3, h4⟩ := h
  exact ⟨h1, v, by rw [hb.block b hlt]; exact h2, owns_below h3 hb, h4⟩
theorem Bld.below {B b : Nat} {s : ByteArray} {w w' : World} (h : Bld B b s w) (hb : Below w.heap.size w w') : Bld B b s w' := by
  rcases h with h | h
  · exact .inl (bat_below h hb)
  · exact .inr (bat_below h hb)
theorem Bld.new (w : World) : Bld w.heap.size w.heap.size ⟨#[]⟩ (w.alloc (.cells #[.pointer none, .slice none 0 0] 70)) := Lib.fresh_isBuilder _ _ w

/-! The panic of copyCheck is not in this program's text, so the shelf's own laying of WriteString does not serve here: walked. -/
theorem Tryd.sizeBuilder : (Tryd.prog.info? 70).map (·.size) = some 2 := by kernel_rfl
theorem Tryd.liesBuilder : liesAt Tryd.prog Tryd.prog.depth 70 (2 / Tryd.prog.cellsOf 70) 0 70 1 = true := by kernel_rfl
theorem Tryd.infoByte : (Tryd.prog.info? 5).map (fun i => (i.zero, i.size, i.bytes)) = some (some (.int .u8 0), 1, 1) := by kernel_rfl
set_option maxRecDepth 100000 in
theorem bcheck_used (b : Nat) (w : World) (h0 : w.cell? ⟨b, 0, none⟩ = some (.pointer (some ⟨b, 0, none⟩))) :
    Calls Tryd.prog 48 #[.pointer (some ⟨b, 0, none⟩)] w fun e w' => e = .returned (.tuple #[]) ∧ w' = w := by
  obtain ⟨j, hj, _⟩ := Option.map_eq_some_iff.1 Tryd.sizeBuilder
  go_enter Tryd.func48, Tryd.ntmps48
  go_wp2
  rw [Lib.run_neq_ptr_same w _ Tryd.underlying67 hj]
  go_wp2
  go_end0
  exact ⟨rfl, rfl⟩
set_option maxRecDepth 100000 in
theorem bcheck_new (b : Nat) (w : World) (h0 : w.cell? ⟨b, 0, none⟩ = some (.pointer none)) (hsh : w.shape? b = some (70, 2)) (hfz : w.frozen? ⟨b, 0, none⟩ = false) :
    Calls Tryd.prog 48 #[.pointer (some ⟨b, 0, none⟩)] w fun e w' => e = .returned (.tuple #[]) ∧ w' = w.setCell ⟨b, 0, none⟩ (.pointer (some ⟨b, 0, none⟩)) := by
  obtain ⟨j, hj, hjs⟩ := Option.map_eq_some_iff.1 Tryd.sizeBuilder
  have hto := Lib.run_to_unsafe w ⟨b, 0, none⟩ Tryd.underlying67 Tryd.underlying93 hj (by rw [hjs]; decide) hsh (Nat.zero_lt_succ 1)
  have hfrom := Lib.run_from_unsafe w ⟨b, 0, none⟩ Tryd.underlying93 Tryd.underlying67 hj hsh Tryd.liesBuilder
  go_enter Tryd.func48, Tryd.ntmps48
  go_wp2
  rw [run_callFunc_extern Tryd.func54 (by kernel_rfl) (by kernel_rfl) (by kernel_rfl) (e := Extern.AbiNoEscape.same) (by kernel_rfl), Lib.run_noEscape, Result.andThen, Oper.upon_value]
  go_wp2
  go_end0
  exact ⟨rfl, rfl⟩
/-- Behind copyCheck the Builder holds its own address. -/
theorem bcheck_any (B b : Nat) (s : ByteArray) (w : World) (h : Bld B b s w) :
    Calls Tryd.prog 48 #[.pointer (some ⟨b, 0, none⟩)] w fun e w' => e = .returned (.tuple #[]) ∧ Lib.BuilderAt 70 5 B b (.pointer (some ⟨b, 0, none⟩)) (Lib.strCells s) w' ∧ Below B w w' := by
  rcases h with h | h
  · exact (bcheck_new b w h.cell0 h.shape h.frozen0).mono fun e w' ⟨he, hw⟩ => ⟨he, by rw [hw]; exact h.used _, by rw [hw]; exact (Below.refl B w).setCell (p := ⟨b, 0, none⟩) h.1 _⟩
  · exact (bcheck_used b w h.cell0).mono fun e w' ⟨he, hw⟩ => ⟨he, by rw [hw]; exact h, by rw [hw]; exact Below.refl B _⟩
set_option maxRecDepth 100000 in
set_option maxHeartbeats 800000 in
theorem bwrite_any (B b : Nat) (s t : ByteArray) (w : World) (h : Bld B b s w) (hlen : s.size + t.size ≤ 140737488355328) (hBw : B ≤ w.heap.size) :
    Calls Tryd.prog 36 #[.pointer (some ⟨b, 0, none⟩), .string t] w fun e w' => e = .returned (.tuple #[.int .i64 t.size, .nilIface]) ∧ Bld B b (s ++ t) w' ∧ Below B w w' := by
  obtain ⟨i0, hi, hz0, hz1, hz2⟩ := info_parts Tryd.infoByte
  have hst : Lib.strCells (s ++ t) = Lib.strCells s ++ Lib.strCells t := by simp [Lib.strCells, ByteArray.data_append]
  go_enter Tryd.func36, Tryd.ntmps36
  go_wp2_with fail
  refine (bcheck_any B b s w h).mono ?_
  rintro e w1 ⟨rfl, hat, hb1⟩
  have hlt := hat.lt
  have c0 := hat.cell0
  obtain ⟨hB, v, hbk, hown, hne⟩ := hat
  have c1 : w1.cell? ⟨b, 1, none⟩ = some v := by rw [Lib.cell_of_heap hbk]; rfl
  have hz := Nat.le_trans hBw hb1.size
  have hls := Lib.strCells_length s
  go_wp2_with (at_builtin; refine Lib.wpList_append_own_string _ rfl _ _ 68 9 rfl B 5 i0 Tryd.underlying68 Tryd.underlying9 hi hz0 hz1 hz2 _ _ _ rfl hown t rfl ?c3 ?c4 ?c5 ?_)
  case c3 => unfold maxLen; omega
  case c4 => omega
  case c5 => omega
  intro v2 w2 hown2 hgrow _
  have hb2 : w2.heap[b]? = some (.cells #[.pointer (some ⟨b, 0, none⟩), v] 70 (0, 0)) := (hgrow.block b hlt (fun e => hne e.symm)).trans hbk
  have d0 : w2.cell? ⟨b, 0, none⟩ = some (.pointer (some ⟨b, 0, none⟩)) := by rw [Lib.cell_of_heap hb2]; rfl
  have d1 : w2.cell? ⟨b, 1, none⟩ = some v := by rw [Lib.cell_of_heap hb2]; rfl
  have f1 : w2.frozen? ⟨b, 1, none⟩ = false := Lib.frozen_of_heap hb2 1
  have hput : Bld B b (s ++ t) (w2.setCell ⟨b, 1, none⟩ v2) := by
    refine .inr (Lib.BuilderAt.put hB hb2 ?_ (by decide))
    rw [hst]
    simpa [Lib.strCells_length] using hown2
  have hbel := (hb1.grown hgrow hz (fun k hk => (hown.lt k hk).1)).setCell (p := ⟨b, 1, none⟩) hB v2
  obtain ⟨ao, n', cap, rfl⟩ : ∃ ao n' cap, v2 = .slice ao n' cap := by
    rcases hown2.2 with ⟨hv, _⟩ | ⟨g, cap, cur, hv, _⟩ <;> exact ⟨_, _, _, hv⟩
  go_wp2
  go_ret2
  exact ⟨rfl, hput, hbel⟩
theorem bstring_any (B b : Nat) (s : ByteArray) (w : World) (h : Bld B b s w) (hBw : B ≤ w.heap.size) :
    Calls Tryd.prog 38 #[.pointer (some ⟨b, 0, none⟩)] w fun e w' => e = .returned (.string s) ∧ Below B w w' := by
  have h' : Lib.IsBuilder 70 5 B b (Lib.byteCells s.data.toList) w := h
  refine (Any.Builder_String_any Tryd.lays169 Tryd.Builder_Extra_169 B b s.data.toList w h' hBw).mono ?_
  rintro e w' ⟨rfl, hb⟩
  exact ⟨by simp, hb⟩
end Go.Proofs.YtejgcflcckjlpaaDoor
namespace Go.Proofs.YtejgcflcckjlpaaDoor
open Go.RowKit
set_option linter.unusedVariables false
set_option maxRecDepth 100000

/-- What the rows of a fold are. -/
structure FineR (agg bound : Int) (l : List Rw) : Prop where
  ok : okRows agg bound l = true
  cell : ∀ r ∈ l, OkC agg bound r.2
  key : ∀ r ∈ l, Good r.1
theorem FineR.each {agg bound : Int} {l : List Rw} (h : FineR agg bound l) {r : Rw} (hr : r ∈ l) : r.1.2.size ≤ 64 ∧ OkC agg bound r.2 ∧ Good r.1 := ⟨((okRows_parts h.ok).2.2.1 r hr).1, h.cell r hr, h.key r hr⟩
theorem FineR.len {agg bound : Int} {l : List Rw} (h : FineR agg bound l) : l.length ≤ 1536 := (okRows_parts h.ok).2.1
theorem FineR.sz {agg bound : Int} {l : List Rw} (h : FineR agg bound l) {m : List Rw} (hm : ∀ r ∈ m, r ∈ l) (hl : m.length ≤ l.length) : (rowsBy agg m).size ≤ 800000 := by
  have := rowsBy_size (agg := agg) (l := m) (fun r hr => ⟨(h.each (hm r hr)).1, (h.each (hm r hr)).2.1.2.2⟩)
  have := h.len
  omega
set_option maxHeartbeats 1600000 in
theorem rbytes_ok (agg bound : Int) (v : Value) (l : List Rw) (w : World) (h : WS w v l) (hcap : CapOk v) (hf : FineR agg bound l) :
    Calls Tryd.prog 34 #[.int .i64 agg, .int .i64 bound, v] w (ByR w (rowsBy agg l, 0)) := by
  have H1 := hidM (rcheck_ok agg bound v l w h (fun r hr => by have := (hf.cell r hr).2.2; omega) hcap hf.ok)
  obtain ⟨a, cap, rfl, hsh⟩ := h
  have hlen := hf.len
  go_enter Tryd.func34, Tryd.ntmps34
  go_wp2_with (go_at_call 31; refine H1.out.mono ?_; rintro e W1 ⟨rfl, hb1⟩)
  have hbd := Bld.new W1
  have hb2 := hb1.alloc hb1.size (.cells #[.pointer none, .slice none 0 0] 70)
  have hsB : w.heap.size ≤ W1.heap.size := hb1.size
  generalize hWB : W1.alloc (.cells #[.pointer none, .slice none 0 0] 70) = W2 at hbd hb2 ⊢
  have hB2 : W1.heap.size ≤ W2.heap.size := by rw [← hWB]; simp
  clear hWB hb1
  generalize W1.heap.size = B at hbd hsB hB2 ⊢
  clear W1
  go_loopw [25] (fun i wr => ∃ k : Nat, k ≤ l.length ∧ i = .int .i64 k ∧ Bld B B (rowsBy agg (l.take k)) wr ∧ Below w.heap.size w wr ∧ B ≤ wr.heap.size) (fun i _ => l.length - (intOf i).toNat)
  case atStart => exact ⟨0, by omega, rfl, hbd, hb2, hB2⟩
  case round =>
    clear hbd hb2 hB2
    rename World => w0
    obtain ⟨k, hk, rfl, hbd, hbel, hBw⟩ := hrel
    have hsz := hbel.size
    by_cases hlt : k < l.length
    · obtain ⟨⟨⟨ya, yb⟩, yn, yl⟩, hy⟩ := getSome hlt
      rcases hsh with rfl | ⟨b, off, rfl, hb, hat⟩
      · simp at hlt
      obtain ⟨hq1, hq2, hq3⟩ := hf.each (List.mem_of_getElem? hy)
      simp only at hq1 hq2 hq3
      obtain ⟨c0, c1, c2, s1, p1, c3, n1⟩ := (hat.below hbel hb) k _ hy
      simp only at c0 c1 c2 c3 n1
      obtain ⟨Wa, hWa⟩ : ∃ Wa : World, Wa = w0.alloc (.cells #[.int .i64 ya, .string yb, .int .i64 yn, .slice s1 yl.length p1] 57) := ⟨_, rfl⟩
      have hba : Below w0.heap.size w0 Wa := by rw [hWa]; exact (Below.refl _ _).alloc (Nat.le_refl _) _
      have B4 : Blk4 Wa w0.heap.size (.int .i64 ya) (.string yb) (.int .i64 yn) (.slice s1 yl.length p1) := by rw [hWa]; exact Blk4.new w0 _ _ _ _
      obtain ⟨a0, a1, a2, a3, -⟩ := B4.cells
      have HA := hidM hWa.symm
      have HC1 := hidM (kbytes_any (ya, yb) Wa hq1 hq3.1.1 hq3.1.2)
      have HC2 := hidM (fun W (hW : Below Wa.heap.size Wa W) => cbytes_any agg bound _ (yn, yl) W ⟨s1, p1, rfl, (n1.below hba).below hW⟩ hq2.2.1 (by have h : yl.length ≤ 32 := hq2.2.2; show yl.length ≤ 50000; omega))
      rw [bytesR_of hq2.1] at HC2
      have hstep : rowsBy agg (l.take (k + 1)) = rowsBy agg (l.take k) ++ kBytes (ya, yb) ++ cBytes agg (yn, yl) := by
        rw [List.take_add_one, hy]
        show rowsBy agg (l.take k ++ [((ya, yb), (yn, yl))]) = _
        rw [rowsBy_snoc]
        unfold rowBy
        apply ba_ext
        simp [ByteArray.data_append]
      have hs1 := hf.sz (m := l.take (k + 1)) (fun r hr => List.mem_of_mem_take hr) (by simp; omega)
      rw [hstep] at hs1
      simp only [ByteArray.size_append] at hs1
      have HB4 := hidM B4
      have HBD := hidM (hbd.below hba)
      have HBW : Hid (Below w.heap.size w Wa) := hbel.trans (hba.mono hsz)
      have hBa : B ≤ Wa.heap.size := Nat.le_trans hBw hba.size
      have HST := hidM hstep
      generalize kBytes (ya, yb) = X at *
      generalize cBytes agg (yn, yl) = Y at *
      generalize rowsBy agg (l.take k) = Z at *
      clear hWa hbel hat n1 hba B4 hy hbd hstep hq1 hq2 hq3
      go_wp2_with (first
        | (go_at_call 18; rw [HA.out]; refine HC1.out.mono ?_; rintro e W3 ⟨rfl, hb3⟩; obtain ⟨d0, d1, d2, d3, -⟩ := (HB4.out.below hb3).cells)
        | (go_at_call 45; refine (HC2.out _ hb3).mono ?_; rintro e W4 ⟨rfl, hb4⟩; have hb4' := nxt hb3 hb4; have HD1 := hidM (bwrite_any B B Z X W4 (HBD.out.below hb4') (by omega) (Nat.le_trans hBa hb4'.size)))
        | (go_at_call 36; refine HD1.out.mono ?_; rintro e W5 ⟨rfl, hbd5, hb5⟩; have HD1 := hidM (bwrite_any B B (Z ++ X) Y W5 hbd5 (by simp only [ByteArray.size_append]; omega) (Nat.le_trans (Nat.le_trans hBa hb4'.size) hb5.size)); have HB5 := hidM ((HBW.out.trans (hb4'.mono HBW.out.size)).trans (hb5.mono hsB)); have HS5 := hidM hb5; clear hbd5 hb5))
      refine HD1.out.mono ?_
      rintro e W6 ⟨rfl, hbd6, hb6⟩
      have HF := hidM (show Bld B B (rowsBy agg (l.take (k + 1))) W6 ∧ Below w.heap.size w W6 ∧ B ≤ W6.heap.size from ⟨by rw [HST.out]; exact hbd6, HB5.out.trans (hb6.mono hsB), Nat.le_trans (Nat.le_trans (Nat.le_trans hBa hb4'.size) HS5.out.size) hb6.size⟩)
      clear hbd6 hb6
      go_wp2
      go_roundw
      case rel => exact ⟨k + 1, by omega, by go_num, HF.out⟩
      case measure => simp [intOf]; omega
    · have hlt' : l.length ≤ k := by omega
      rw [List.take_of_length_le hlt'] at hbd
      have HC := hidM (bstring_any B B _ w0 hbd hBw)
      have HBE := hidM hbel
      go_wp2_with (go_at_call 38; refine HC.out.mono ?_; rintro e W3 ⟨rfl, hb3⟩)
      go_ret2
      exact ⟨rfl, HBE.out.trans (hb3.mono hsB)⟩
end Go.Proofs.YtejgcflcckjlpaaDoor
