/- The law FrameCuts' walk: it answers true, whatever row of strings comes in; it writes nothing that was there. -/
import Derived.Test.YtllcpdpjfcjopaaDoorFScan
import Derived.Test.YtllcpdpjfcjopaaDoorFCut
import Derived.Test.YtllcpdpjfcjopaaDoorNRow
import Derived.Test.YtllcpdpjfcjopaaDoorFLaw
import Derived.Deep.RegionHeld3
import Derived.Deep.Cut
import Derived.Deep.CutRange
import Derived.Deep.CutBlock
import Derived.Deep.QuietTactic
import Derived.BigQuiet
import Derived.StillTailTactics
namespace Go.Proofs.YtllcpdpjfcjopaaDoor
open Go.RowKit
set_option linter.unusedVariables false

/-- A slice that came in has no more elements than room. -/
theorem open_strl_cap {H : Type} {enc : TypeId × Value → H} {W : World} {a : Option Addr} {len cap : Nat} {d : DataW H} {p : List MemPlace} (h : DataW.Trod enc Tryd.prog W 0 (fun _ => true) true 22 (.slice a len cap) d p) : len ≤ cap := by
  obtain ⟨fuel, hf⟩ := h
  rcases ChangeShapes.open_strings Tryd.underlying22 Tryd.underlying9 Tryd.cells9 hf with ⟨hcs, _⟩ | ⟨x, l, c, ss, hcs, _, hl, _⟩
  · simp [Value.cells] at hcs
    omega
  · simp [Value.cells] at hcs
    omega

theorem within5_any (x y : Int) (w : World) (hx0 : 0 ≤ x) (hx : x < 4611686018427387904) (hy0 : 0 < y) (hy : y < 4611686018427387904) :
    Calls Tryd.prog 15 #[.int .i64 x, .int .i64 y] w fun e w' => e = .returned (.int .i64 (x % y)) ∧ w' = w := by
  have h1 : 0 ≤ x % y := Int.emod_nonneg _ (by omega)
  have h2 : x % y < y := Int.emod_lt_of_pos _ hy0
  have hyn : ¬ y = 0 := by omega
  go_enter Tryd.func15, Tryd.ntmps15
  go_wp2
  go_ret
  exact ⟨rfl, rfl⟩

/-- The ends of the frames of l, one behind the other. -/
def fend (l : List ByteArray) (i : Nat) : Nat := (fcat (l.take i)).size
theorem fend_zero (l : List ByteArray) : fend l 0 = 0 := rfl
def EndsOf (l : List ByteArray) (E : List Int) : Prop := ∀ i, i < E.length → E[i]? = some ((fend l (i + 1) : Nat) : Int)
theorem ends_cell {W : World} {ae : Option Addr} {k cape : Nat} {E : List Int} {l : List ByteArray} (h : NS W (.slice ae k cape) E) (hE : E.length = k) (hEnds : EndsOf l E) {i : Nat} (hi : i < k) :
    ∃ b off, ae = some ⟨b, off, none⟩ ∧ W.cell? ⟨b, off + i, none⟩ = some (.int .i64 ((fend l (i + 1) : Nat) : Int)) := by
  obtain ⟨a, cap, e, h⟩ := h
  injection e with e1 e2 e3
  rcases h with rfl | ⟨b, off, ha, _, hat⟩
  · simp at hE; omega
  · exact ⟨b, off, e1.trans ha, hat i _ (hEnds i (by omega))⟩
theorem scan_prefix (l : List ByteArray) (k : Nat) (row : ByteArray) (hrw : fcat (l.take k) = row) (hk : k ≤ l.length) (hM : ∀ x ∈ l.take k, x.size ≤ 32768) (m i : Nat) (hm : m ≤ row.size) (hi : i ≤ k) (h1 : fend l i ≤ m) (h2 : i = k ∨ m < fend l (i + 1)) :
    scanOf (row.extract 0 m) = (l.take i, fend l i) := by
  have ht : ∀ j, j ≤ k → (l.take k).take j = l.take j := fun j hj => by rw [List.take_take, Nat.min_eq_left hj]
  have hkl : (l.take k).length = k := by rw [List.length_take]; omega
  subst hrw
  unfold fend at h1 h2 ⊢
  rw [scanOf_cut (l.take k) m i hM hm (by omega) (by rw [ht i hi]; exact h1) (by
    by_cases hik : i = k
    · exact .inl (by omega)
    · right
      rw [ht (i + 1) (by omega)]
      rcases h2 with h2 | h2
      · exact absurd h2 hik
      · exact h2), ht i hi]
theorem SS.take {w : World} {a : Option Addr} {n cap : Nat} {l : List ByteArray} (h : SS w (.slice a n cap) l) (i : Nat) (hi : i ≤ n) : SS w (.slice a i cap) (l.take i) := by
  obtain ⟨a', cap', e, h⟩ := h
  injection e with e1 e2 e3
  subst e1 e2 e3
  have hl : (l.take i).length = i := by rw [List.length_take]; omega
  refine ⟨a, cap, by rw [hl], ?_⟩
  rcases h with rfl | ⟨b, off, rfl, hb, hat⟩
  · exact .inl (by simp)
  · refine .inr ⟨b, off, rfl, hb, fun j x hx => hat j x ?_⟩
    have hj : j < i := by have := (List.getElem?_eq_some_iff.1 hx).1; omega
    rwa [List.getElem?_take_of_lt hj] at hx

set_option maxRecDepth 100000 in
set_option maxHeartbeats 1600000 in
theorem lawfc (a : Option Addr) (n cap : Nat) (l : List ByteArray) (w : World) (h : SS w (.slice a n cap) l) (hn : l.length = n) (hcap : n ≤ cap) (hl : l.length ≤ 8796093021952) (hwf : WfS l) (hh : Halves w) :
    Calls Tryd.prog 4 #[.slice a n cap] w fun e w' => e = .returned (.bool true) ∧ Below w.heap.size w w' := by
  have hvy := heavy_any _ l w h hl hwf
  have hSS := h
  replace h : l = [] ∨ ∃ b off, a = some ⟨b, off, none⟩ ∧ b < w.heap.size ∧ StrsAt w b off l := by
    obtain ⟨a', cap', e, h⟩ := h
    injection e with e1 e2 e3
    subst e1
    exact h
  obtain ⟨i0, hi, hz0, hz1, hz2⟩ := info_parts Tryd.info3
  rw [hn] at hl hvy
  go_enter Tryd.func4, Tryd.ntmps4
  go_wp2_with fail
  refine hvy.mono ?_
  rintro e w1 ⟨⟨r, rfl, hr⟩, hw1⟩
  subst hw1
  rename World => w
  clear hvy
  cases r
  · have hwt := hr rfl
    clear hr
    go_upto_block 0 with fail
    go_cut [3, 4] from 20 to 105 (fun r en wr => ∃ (k : Nat) (E : List Int), k ≤ n ∧ k ≤ 5 ∧ r = .string (fcat (l.take k)) ∧ (fcat (l.take k)).size ≤ 308 * k ∧ (∀ x ∈ l.take k, x.size ≤ 300) ∧ OwnN wr w.heap.size en E ∧ E.length = k ∧ EndsOf l E ∧ Below w.heap.size w wr)
    case first =>
      go_wp2_with fail
      go_loopw [3, 4, 5] (fun r en i wr => ∃ (k : Nat) (E : List Int), k ≤ n ∧ k ≤ 5 ∧ i = .int .i64 k ∧ r = .string (fcat (l.take k)) ∧ (fcat (l.take k)).size ≤ 308 * k ∧ (∀ x ∈ l.take k, x.size ≤ 300) ∧ OwnN wr w.heap.size en E ∧ E.length = k ∧ EndsOf l E ∧ Below w.heap.size w wr) (fun _ _ i _ => 5 - (intOf i).toNat)
      case atStart => exact ⟨0, [], by omega, by omega, rfl, rfl, Nat.le_refl 0, by simp, World.ownsRow_nil _ _ _ _, rfl, fun i hi => by simp at hi, Below.refl _ _⟩
      case round =>
        obtain ⟨k, E, hk, hk5, rfl, rfl, hrow, hsm, hown, hE, hEnds, hbel⟩ := hrel
        have hhr := hh.below hbel hh.pos
        obtain ⟨row, hrw⟩ : ∃ row, fcat (l.take k) = row := ⟨_, rfl⟩
        rw [hrw] at hrow ⊢
        obtain ⟨ae, cape, rfl⟩ := hown.shape
        rw [hE] at hown ⊢
        by_cases hlt : k < n ∧ k < 5
        · obtain ⟨hlt, hlt10⟩ := hlt
          rcases h with rfl | ⟨b, off, rfl, hb, hat⟩
          · simp at hn; omega
          obtain ⟨x, hx⟩ := getSome (l := l) (i := k) (by omega)
          have hA0 := hat k x hx
          have hA := (hbel.cell (p := ⟨b, off + k, none⟩) hb).trans hA0
          clear hat
          by_cases h300 : 300 < x.size
          · go_wp2_with fail
            go_ret
            exact ⟨rfl, hbel⟩
          · have hfs := frame_size x
            have hby := fun W (hW : Halves W) => fbytes_ok x W (by omega) hW
            have htf := turned_frame x (by omega)
            have hnx : fcat (l.take (k + 1)) = row ++ frameOf x := by rw [List.take_add_one, hx, ← hrw, ← fcat_snoc]; rfl
            have hsm' : ∀ y ∈ l.take (k + 1), y.size ≤ 300 := by
              intro y hy
              rw [List.take_add_one, hx] at hy
              rcases List.mem_append.1 hy with hy | hy
              · exact hsm y hy
              · simp at hy; subst hy; omega
            have hx300 : x.size ≤ 300 := by omega
            have hd300 : decide (300 < (x.size : Int)) = false := decide_eq_false (by omega)
            generalize frameOf x = fr at hfs hby htf hnx
            have hd8 : ((fr.size : Int) == 8 + (x.size : Int)) = true := by rw [beq_iff_eq]; omega
            clear hsm hx h300
            go_wp2_with fail
            refine (hby _ hhr).mono ?_
            rintro e w2 ⟨rfl, hb2⟩
            have hbel2 := bel_next hbel hb2
            have hA2 := (hbel2.cell (p := ⟨b, off + k, none⟩) hb).trans hA0
            have hown2 := hown.below hb2
            clear hby hhr hA hbel hb2 hown
            go_wp2_with (go_at_call 7; refine (num5_any _ _).mono ?_; rintro e w2 ⟨rfl, rfl⟩)
            go_loopw [8] (fun i wz => ∃ j : Nat, j ≤ 8 ∧ i = .int .i64 j ∧ Below w2.heap.size w2 wz) (fun i _ => 8 - (intOf i).toNat)
            case atStart => exact ⟨0, by omega, rfl, Below.refl _ _⟩
            case round =>
              rename World => wz
              obtain ⟨j, hj, rfl, hbz⟩ := hrel
              by_cases hj8 : j < 8
              · obtain ⟨W1, cap1, hcv, hb1, hownB⟩ := toBytes wz fr
                obtain ⟨sz, hsz⟩ : ∃ sz, fr.size = sz := ⟨_, rfl⟩
                rw [hsz] at hcv hfs hd8
                have hm1 : (0 : Int) ≤ (j : Int) * (sz : Int) := Int.mul_nonneg (by omega) (by omega)
                have hm2 : (j : Int) * (sz : Int) ≤ 2464 := by
                  have := Nat.mul_le_mul (show j ≤ 8 by omega) (show sz ≤ 308 by omega)
                  exact_mod_cast this
                have hs1 : 8 ≤ sz := by omega
                have hs2 : sz ≤ 308 := by omega
                have HSX : Hid (sz = 8 + x.size) := hfs
                clear hfs hA2
                have hq1 : (0 : Int) ≤ (j : Int) * (sz : Int) / 8 + (k : Int) := by omega
                have hq2 : (j : Int) * (sz : Int) / 8 + (k : Int) ≤ 1000 := by omega
                obtain ⟨p, hp⟩ : ∃ p : Nat, ((j : Int) * (sz : Int) / 8 + (k : Int)) % ((sz : Int) - 4) = (p : Int) := ⟨(((j : Int) * (sz : Int) / 8 + (k : Int)) % ((sz : Int) - 4)).toNat, by
                  have := Int.emod_nonneg ((j : Int) * (sz : Int) / 8 + (k : Int)) (show (sz : Int) - 4 ≠ 0 by omega)
                  omega⟩
                have hp4 : p + 4 < sz := by
                  have := Int.emod_lt_of_pos ((j : Int) * (sz : Int) / 8 + (k : Int)) (show 0 < (sz : Int) - 4 by omega)
                  omega
                have hwi := within5_any ((j : Int) * (sz : Int) / 8 + (k : Int)) ((sz : Int) - 4) W1 (by omega) (by omega) (by omega) (by omega)
                rw [hp] at hwi
                clear hp
                go_wp2_with fail
                refine hwi.mono ?_
                rintro e W2 ⟨rfl, hW2⟩
                subst hW2
                have hxl : fr.data.toList.length = sz := by rw [← hsz]; simp
                obtain ⟨q, hq⟩ : ∃ q, p + 4 = q := ⟨_, rfl⟩
                have hpq : (4 : Int) + (p : Int) = (q : Int) := by omega
                have hq4 : 4 ≤ q := by omega
                have hqs : q < sz := by omega
                clear hwi hp4 hq hq1 hq2 hm1 hm2
                go_wp2_with fail
                clear hpq
                have hc1 := hownB.cell q (by omega)
                have hf1 := hownB.free q (by omega)
                have hbz1 := hbz.trans (hb1.mono hbz.size)
                go_cut [] from 62 to 96 (fun wx => OwnB wx wz.heap.size (fr.data.toList.set q (fr.data.toList.getD q 0 ^^^ turn j)) ∧ Below w2.heap.size w2 wx)
                case first =>
                  refine wp_region_still_tail 9 (Checked.mixed Tryd.checked) (by kernel_rfl) ?_
                  simp only [List.take_succ_cons, List.take_zero, List.drop_succ_cons, List.drop_zero]
                  repeat still_step
                  refine wpStill_nil ?_
                  change wpList _ _ _ _ _ W2.drew
                  go_wp2_with fail
                  go_meet
                  case rel => exact ⟨(hownB.set (by omega) _ _ (turn_cell fr q j _ (by omega))).drew, (hbz1.setCell hbz.size _).drew⟩
                case rest =>
                  obtain ⟨hown3, hbz3⟩ := hcut
                  have htq := htf q j hq4 (by have := HSX.out; omega) hj8
                  have hl1 : (fr.data.toList.set q (fr.data.toList.getD q 0 ^^^ turn j)).length = sz := by rw [List.length_set, hxl]
                  change fTake ⟨(fr.data.toList.set q (fr.data.toList.getD q 0 ^^^ turn j)).toArray⟩ = _ at htq
                  clear hc1 hf1 hownB hb1 hbz1 hcv
                  generalize fr.data.toList.set q (fr.data.toList.getD q 0 ^^^ turn j) = l1 at hown3 htq hl1
                  have hcv2 := ofBytes (cap := cap1) hown3
                  rw [hl1] at hcv2
                  have hs3 : (ByteArray.mk l1.toArray).size = sz := by rw [← hl1]; simp [ByteArray.size]
                  have hbelz := bel_next hbel2 hbz3
                  have hh3 := hh.below hbelz hh.pos
                  have hT := ftake_any ⟨l1.toArray⟩ wc (by omega) hh3
                  simp only [TakePost, htq] at hT
                  clear htq hown3 hs3
                  generalize ByteArray.mk l1.toArray = s1 at hcv2 hT
                  go_wp2_with fail
                  refine hT.mono ?_
                  rintro e w4 ⟨rfl, hb4⟩
                  have hbz4 := bel_next hbz3 hb4
                  clear hT hbz3 hb4 hbelz hh3
                  go_wp2_with (go_at_call 7; refine (num5_any _ _).mono ?_; rintro e w4 ⟨rfl, rfl⟩)
                  go_roundw
                  case rel => exact ⟨j + 1, by omega, by go_num, hbz4⟩
                  case measure => simp [intOf]; omega
              · have hown5 := hown2.below hbz
                have hbel5 := bel_next hbel2 hbz
                have hadd : ∀ W, (Op.stringOp .add row fr).run Tryd.prog W = .ok (.string (row ++ fr)) W := fun W => run_string_add_sum W _ _ (by omega)
                have hE1 : EndsOf l (E ++ [(((row ++ fr).size : Nat) : Int)]) := by
                  intro i hi
                  rw [List.length_append, List.length_singleton] at hi
                  by_cases h1 : i < E.length
                  · rw [List.getElem?_append_left h1]; exact hEnds i h1
                  · have h2 : i = k := by omega
                    subst h2
                    unfold fend
                    rw [← hE, List.getElem?_append_right (by omega), hE, hnx]
                    simp
                have hsz1 : (row ++ fr).size ≤ 308 * (k + 1) := by rw [ByteArray.size_append]; omega
                have hsz5 := hbel5.size
                clear hbz hbel2 hown2 hA2 hEnds
                generalize row ++ fr = row' at hadd hE1 hsz1 hnx
                go_wp2_with (at_builtin; refine wpList_append_own _ rfl _ _ 38 rfl w.heap.size 3 i0 _ 1 8 Tryd.underlying38 hi hz0 hz1 hz2 rfl (by decide) _ _ _ rfl (hown5.alloc _) ⟨wz.heap.size, 0, none⟩ 1 1 [.int .i64 (row'.size : Int)] rfl rfl (cell_one_new _ _ _) (ints_oneCell .i64 [(row'.size : Int)]) ?c3 ?c4 ?c5 ?_)
                case c3 => unfold maxLen; omega
                case c4 => omega
                case c5 => first | omega | (simp; omega)
                intro v6 w6 hown6 hgrow6 _
                have hbel6 : Below w.heap.size w w6 := (hbel5.alloc hsz5 _).grown hgrow6 (by simp; omega) (own_rowS hown5)
                have hown7 : OwnN w6 w.heap.size v6 (E ++ [(row'.size : Int)]) := OwnN.snoc (x := (row'.size : Int)) hown6 hE.symm
                clear hown6 hgrow6 hown5 hbel5
                go_wp2_with fail
                go_roundw
                case rel => exact ⟨k + 1, _, by omega, by omega, by go_num, by rw [hnx], by rw [hnx]; exact hsz1, hsm', hown7, by simp [hE], hE1, hbel6⟩
                case measure => simp [intOf]; omega
        · by_cases hkn : k < n
          · obtain rfl : k = 5 := by omega
            go_wp2_with fail
            go_meet
            case rel => exact ⟨5, E, hk, hk5, by rw [hrw], by rw [hrw]; exact hrow, hsm, hown, hE, hEnds, hbel⟩
          · have hkn' : ¬ (k : Int) < n := by omega
            go_wp2_with fail
            go_meet
            case rel => exact ⟨k, E, hk, hk5, by rw [hrw], by rw [hrw]; exact hrow, hsm, hown, hE, hEnds, hbel⟩
    case rest =>
      obtain ⟨k, E, hk, hk5, rfl, hrow, hsm, hown, hE, hEnds, hbel⟩ := hcut
      clear i0 hi hz0 hz1 hz2
      have hhr := hh.below hbel hh.pos
      obtain ⟨row, hrw⟩ : ∃ row, fcat (l.take k) = row := ⟨_, rfl⟩
      rw [hrw] at hrow ⊢
      obtain ⟨ae, cape, rfl⟩ := hown.shape
      rw [hE] at hown ⊢
      have hM : ∀ x ∈ l.take k, x.size ≤ 32768 := fun x hx => by have := hsm x hx; omega
      have hNS := NS.own hown
      have hr2 : row.size ≤ 1540 := by omega
      have hr3 : row.size / 60 ≤ 26 := by omega
      clear hsm hrow hown hhr hwt hwf h
      go_wp2_with fail
      go_loopw [14] (fun v wy => ∃ m : Nat, v = .int .i64 m ∧ m ≤ 1600 ∧ Below w.heap.size w wy ∧ NS wy (.slice ae k cape) E) (fun v _ => 1700 - (intOf v).toNat)
      case atStart => exact ⟨0, rfl, by omega, hbel, hNS⟩
      case round =>
        clear hbel hNS
        rename World => wy
        obtain ⟨m, rfl, hm, hbel, hNS⟩ := hrel
        by_cases hmr : m ≤ row.size
        · have hmr' : (m : Int) ≤ row.size := by omega
          go_upto_block 6 with fail
          go_cut [15, 16] from 112 to 137 (fun wh en wx => ∃ i : Nat, i ≤ k ∧ wh = .int .i64 i ∧ en = .int .i64 ((fend l i : Nat) : Int) ∧ fend l i ≤ m ∧ (i = k ∨ m < fend l (i + 1)) ∧ Below w.heap.size w wx ∧ NS wx (.slice ae k cape) E)
          case first =>
            go_wp2_with fail
            go_loopw [15, 16, 17] (fun wh en kk wx => ∃ i : Nat, i ≤ k ∧ kk = .int .i64 i ∧ wh = .int .i64 i ∧ en = .int .i64 ((fend l i : Nat) : Int) ∧ fend l i ≤ m ∧ Below w.heap.size w wx ∧ NS wx (.slice ae k cape) E) (fun _ _ kk _ => k - (intOf kk).toNat)
            case atStart => exact ⟨0, by omega, rfl, rfl, by rw [fend_zero]; rfl, by rw [fend_zero]; omega, hbel, hNS⟩
            case round =>
              clear hbel hNS
              rename World => wx
              obtain ⟨i, hik, rfl, rfl, rfl, hfm, hbel, hNS⟩ := hrel
              by_cases hik' : i < k
              · obtain ⟨be, offe, hae, hce⟩ := ends_cell hNS hE hEnds hik'
                obtain ⟨f1, hf1⟩ : ∃ f1, fend l (i + 1) = f1 := ⟨_, rfl⟩
                rw [hf1] at hce
                subst hae
                by_cases hle : f1 ≤ m
                · have hle' : (f1 : Int) ≤ (m : Int) := by omega
                  go_wp2_with fail
                  go_quiet (fail)
                  go_wp2_with fail
                  go_roundw
                  case rel => exact ⟨i + 1, by omega, by go_num, by go_num, by rw [hf1], by omega, bel_drewN hbel _, hNS.below (below_draws _ _)⟩
                  case measure => simp [intOf]; omega
                · have hle' : ¬ (f1 : Int) ≤ (m : Int) := by omega
                  go_wp2_with fail
                  go_meet
                  case rel => exact ⟨i, hik, rfl, rfl, hfm, .inr (by omega), hbel, hNS⟩
              · have hki : Hid (i = k) := by unfold Hid; omega
                have hki' : (k : Int) ≤ i := by omega
                clear hik'
                go_wp2_with fail
                go_meet
                case rel => exact ⟨i, hik, rfl, rfl, hfm, .inl hki.out, hbel, hNS⟩
          case rest =>
            clear hbel hNS
            obtain ⟨i, hik, rfl, rfl, hfm, hor, hbel, hNS⟩ := hcut
            have hsc := scan_prefix l k row hrw (by omega) hM m i hmr hik hfm hor
            have hhx := hh.below hbel hh.pos
            have hS := scan_any (row.extract 0 m) wc (by rw [ByteArray.size_extract]; omega) hhx
            simp only [ScanPost, hsc] at hS
            have hss := hSS.take i (by omega)
            have hlen : (l.take i).length = i := by rw [List.length_take]; omega
            have hic : i ≤ cap := by omega
            clear hsc hhx hor hfm
            generalize fend l i = fe at hS
            generalize l.take i = li at hS hss hlen
            go_wp2_with fail
            refine hS.mono ?_
            rintro e w8 ⟨v8, rfl, hown8, hb8⟩
            have hbel8 := bel_next hbel hb8
            have hNS8 := hNS.below hb8
            have heq := eqstrs_any _ _ li w8 (SS.own hown8) (hss.below hbel8) (by omega)
            obtain ⟨a8, cap8, hv8⟩ := hown8.shape
            rw [hlen] at hv8
            subst hv8
            clear hS hown8 hss hbel hNS hb8
            go_wp2_with fail
            refine heq.mono ?_
            rintro e w9 ⟨rfl, hD⟩
            have hbel9 := bel_next hbel8 (hD.below _)
            have hNS9 := hNS8.below (hD.below _)
            clear heq hbel8 hNS8 hD
            go_wp2_with fail
            go_roundw
            case rel => exact ⟨m + 1 + row.size / 60, by go_num, by omega, hbel9, hNS9⟩
            case measure => simp [intOf]; omega
        · have hmr' : ¬ (m : Int) ≤ row.size := by omega
          have hhr := hh.below hbel hh.pos
          have hwk := wakes5_any _ hhr
          go_wp2_with fail
          refine hwk.mono ?_
          rintro e wB ⟨rfl, hbB⟩
          go_wp2_with fail
          go_ret
          exact ⟨rfl, bel_next hbel hbB⟩
  · go_wp2
    go_ret
    exact ⟨rfl, Below.refl _ _⟩
end Go.Proofs.YtllcpdpjfcjopaaDoor
