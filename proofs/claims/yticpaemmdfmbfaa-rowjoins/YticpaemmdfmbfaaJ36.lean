/- Records folded: row.Fold. -/
import Derived.Test.YticpaemmdfmbfaaJ33
import Derived.Test.YticpaemmdfmbfaaJ35
namespace Go.Proofs.Yticpaemmdfmbfaa
open Go.RowKit Go.Maps
set_option linter.unusedVariables false
set_option maxRecDepth 100000

/-- A cell that may be, as the program holds it. -/
def OkC (agg bound : Int) (c : Cl) : Prop := chk agg bound c = true ∧ WfC c ∧ c.2.length ≤ 32
theorem okC_join {agg bound : Int} {a b : Cl} (ha : OkC agg bound a) (hb : OkC agg bound b) : ((joinC agg bound.toNat a b).2 = 0 → OkC agg bound (joinC agg bound.toNat a b).1) ∧ ((joinC agg bound.toNat a b).2 = 0 ∨ (joinC agg bound.toNat a b).2 = 11) := by
  have := chk_join ha.1 hb.1 ha.2.1 hb.2.1
  rw [joinR_of ha.1 hb.1] at this
  exact ⟨fun h => ⟨this.1 h, this.2.1, this.2.2.1⟩, this.2.2.2⟩
theorem okC_gat {agg bound : Int} (l : List Rw) (hl : ∀ r ∈ l, OkC agg bound r.2) : ∀ x c, look (gat (joinC agg bound.toNat) l).1 x = some c → OkC agg bound c :=
  (all_gat (P := OkC agg bound) (E := fun e => e = 0 ∨ e = 11) (fun a b ha hb => okC_join ha hb) (.inl rfl) l hl).1
theorem okC_one {agg bound v : Int} (hw : wayC agg bound = true) (hv : Num64 v) : OkC agg bound (oneC agg v) := ⟨chk_one v hw, (wf_one hv).1, (wf_one hv).2⟩
theorem okC_fold {agg bound : Int} (l : List Rc) (hw : wayC agg bound = true) (hl : Wf l) : ∀ x c, look (foldR agg bound.toNat l).1 x = some c → OkC agg bound c :=
  okC_gat _ fun r hr => by
    unfold ones at hr
    obtain ⟨y, hy, rfl⟩ := List.mem_map.1 hr
    exact okC_one hw ⟨(hl y hy).v1, (hl y hy).v2⟩
theorem good_rec {x : Rc} (h : Wr x) : Good x.1 := ⟨⟨h.k1, h.k2⟩, by have := h.txt; unfold maxLen; omega⟩
/-- Every key may be. -/
def keysOk (l : List Rc) : Bool := l.all fun r => decide (r.1.2.size ≤ 64)
def foldRes (agg bound : Int) (l : List Rc) : List Rw × Int := if wayC agg bound && decide (l.length ≤ 1536) && keysOk l then fin (foldR agg bound.toNat l) else ([], 1)
theorem rway_any (agg bound : Int) (w : World) : Calls Try.prog 30 #[.int .i64 agg, .int .i64 bound] w (BoolR w (wayC agg bound)) := by
  have H := hidM (fun W => check_any agg bound (.agg #[.int .i64 0, .slice none 0 0]) (0, []) W ⟨none, 0, rfl, none, 0, rfl, .inl rfl⟩ (by decide))
  cases hw : wayC agg bound with
  | true =>
    rw [chk_zero hw, show errC true = 0 from rfl] at H
    go_enter Try.func30, Try.ntmps30
    go_wp2_with (go_at_call 44; refine (H.out _).mono ?_; rintro e W2 ⟨rfl, hb2⟩)
    go_ret
    exact ⟨rfl, hb2⟩
  | false =>
    rw [show chk agg bound (0, []) = false by unfold chk; rw [hw, Bool.false_and], show errC false = 1 from rfl] at H
    go_enter Try.func30, Try.ntmps30
    go_wp2_with (go_at_call 44; refine (H.out _).mono ?_; rintro e W2 ⟨rfl, hb2⟩)
    go_ret
    exact ⟨rfl, hb2⟩
theorem newG_any (agg bound : Int) (base : Nat) (w : World) (hb : base ≤ w.heap.size) : Calls Try.prog 32 #[.int .i64 agg, .int .i64 bound] w fun e w' => e = .returned (.pointer (some ⟨w.heap.size + 1, 0, none⟩)) ∧ Gat w' base (w.heap.size + 1) w.heap.size agg bound [] 0 0 ∧ Below w.heap.size w w' := by
  have hmm := @run_makeMap Try.prog
  go_enter Try.func32, Try.ntmps32
  go_wp2
  go_ret
  have st : ∀ (W : World) (o : Obj), Below W.heap.size W (W.alloc o) := fun W o => (Below.refl _ _).alloc (Nat.le_refl _) _
  refine ⟨rfl, ⟨?_, ⟨.map [], (World.ownsMap_made w _ _ _).alloc _, MapC.start _ _⟩, by omega, hb⟩, nxt (st _ _) (st _ _)⟩
  have := heap_alloc_new (w.alloc (.map #[] 0)) (.cells #[.int .i64 agg, .int .i64 bound, .map (some w.heap.size), .int .i64 0] 73)
  simpa using this
theorem keysOk_step {l : List Rc} {k : Nat} {x : Rc} (h : keysOk (l.take k) = true) (hx : l[k]? = some x) (hs : x.1.2.size ≤ 64) : keysOk (l.take (k + 1)) = true := by
  rw [List.take_add_one, hx]
  unfold keysOk at h ⊢
  simp only [Option.toList_some, List.all_append, h, Bool.true_and]
  simpa using hs
theorem keysOk_bad {l : List Rc} {k : Nat} {x : Rc} (hx : l[k]? = some x) (hs : ¬ x.1.2.size ≤ 64) : keysOk l = false := by
  cases h : keysOk l with
  | false => rfl
  | true =>
    unfold keysOk at h
    rw [List.all_eq_true] at h
    have := h x (List.mem_of_getElem? hx)
    simp at this
    omega
set_option maxHeartbeats 800000 in
theorem haveKeys_any (v : Value) (l : List Rc) (w : World) (h : RS w v l) (hl : l.length ≤ 100000) : Calls Try.prog 31 #[v] w (BoolR w (keysOk l)) := by
  have HK := hidM (fun (x : Ky) W => kcheck_any x W)
  rcases h.shape with ⟨a, cap, rfl, rfl⟩ | ⟨b, off, cap, rfl, hb, hat⟩
  · go_enter Try.func31, Try.ntmps31
    go_wp2
    go_loop [7] (fun i => i = .int .i64 0) (fun _ => 0)
    case atStart => rfl
    case round =>
      subst hrel
      go_wp2
      go_ret
      exact ⟨rfl, Below.refl _ _⟩
  · go_enter Try.func31, Try.ntmps31
    go_wp2
    go_loopw [7] (fun i wr => ∃ k : Nat, k ≤ l.length ∧ i = .int .i64 k ∧ keysOk (l.take k) = true ∧ Below w.heap.size w wr) (fun i _ => l.length - (intOf i).toNat)
    case atStart => exact ⟨0, by omega, rfl, rfl, Below.refl _ _⟩
    case round =>
      rename World => w0
      obtain ⟨k, hk, rfl, hok, hbel⟩ := hrel
      have hsz := hbel.size
      by_cases hlt : k < l.length
      · obtain ⟨⟨⟨ya, yb⟩, yv⟩, hy⟩ := getSome hlt
        obtain ⟨c0, c1, c2⟩ := hat.below hbel hb k _ hy
        simp only at c0 c1 c2
        have hbl : b < w0.heap.size := by omega
        have HC := HK.out (ya, yb)
        by_cases hs : yb.size ≤ 64
        · rw [if_pos (show (ya, yb).2.size ≤ 64 from hs)] at HC
          have hok2 := keysOk_step hok hy hs
          have HB := hidM (hbel.alloc hsz (.cells #[.int .i64 ya, .string yb, .int .i64 yv] 54))
          clear HK
          go_wp2_with (go_at_call 43; refine (HC _).mono ?_; rintro e W2 ⟨rfl, hb2⟩)
          go_roundw
          case rel => exact ⟨k + 1, by omega, by go_num, hok2, nxt HB.out hb2⟩
          case measure => simp [intOf]; omega
        · rw [if_neg (show ¬ (ya, yb).2.size ≤ 64 from hs)] at HC
          have HB := hidM (hbel.alloc hsz (.cells #[.int .i64 ya, .string yb, .int .i64 yv] 54))
          have hbad := keysOk_bad hy hs
          rw [hbad]
          clear HK
          go_wp2_with (go_at_call 43; refine (HC _).mono ?_; rintro e W2 ⟨rfl, hb2⟩)
          go_ret
          exact ⟨rfl, nxt HB.out hb2⟩
      · have hlt' : l.length ≤ k := by omega
        rw [List.take_of_length_le hlt'] at hok
        go_wp2
        go_ret
        exact ⟨by rw [hok]; rfl, hbel⟩
theorem len_fold (agg : Int) (bd : Nat) (l : List Rc) : (foldR agg bd l).1.length ≤ l.length := by
  have := len_gat (joinC agg bd) (ones agg l)
  unfold foldR
  unfold ones at this ⊢
  simpa using this
theorem good_fold (agg : Int) (bd : Nat) {l : List Rc} (hwf : Wf l) : ∀ r ∈ (foldR agg bd l).1, Good r.1 := by
  intro r hr
  have h1 := mem_look (fold_rise agg bd l) hr
  obtain ⟨y, hy, e⟩ := (keys_gat (joinC agg bd) (ones agg l) r.1).1 (by unfold foldR at h1; rw [h1]; rfl)
  unfold ones at hy
  obtain ⟨z, hz, rfl⟩ := List.mem_map.1 hy
  rw [← e]
  exact good_rec (hwf z hz)
theorem blk3 {W : World} {b : Nat} {u v x : Value} {T : TypeId} (h : W.heap[b]? = some (.cells #[u, v, x] T (0, 0))) : W.cell? ⟨b, 0, none⟩ = some u ∧ W.cell? ⟨b, 1, none⟩ = some v ∧ W.cell? ⟨b, 2, none⟩ = some x := by
  refine ⟨?_, ?_, ?_⟩ <;> simp [World.cell?, h]
set_option maxHeartbeats 1600000 in
theorem fold_any (agg bound : Int) (v : Value) (l : List Rc) (w : World) (h : RS w v l) (hwf : Wf l) (hl : l.length ≤ 100000) :
    Calls Try.prog 11 #[.int .i64 agg, .int .i64 bound, v] w (RowsR w w.heap.size (foldRes agg bound l)) := by
  have H1 := hidM (fun W => rway_any agg bound W)
  have H2 := hidM (fun W (hW : Below w.heap.size w W) => haveKeys_any v l W (h.below hW) hl)
  unfold foldRes
  obtain ⟨va, vc, rfl, -⟩ := id h
  by_cases hok : (wayC agg bound && decide (l.length ≤ 1536) && keysOk l) = true
  · rw [if_pos hok]
    simp only [Bool.and_eq_true, decide_eq_true_eq] at hok
    obtain ⟨⟨hw, hl2⟩, hko⟩ := hok
    have hl2' : ¬ ((1536 : Int) < (l.length : Int)) := by omega
    have hl3 : (decide ((1536 : Int) < (l.length : Int))) = false := decide_eq_false hl2'
    rw [hw] at H1
    rw [hko] at H2
    have H3 := hidM (fun W (hW : w.heap.size ≤ W.heap.size) => newG_any agg bound w.heap.size W hW)
    go_enter Try.func11, Try.ntmps11
    go_wp2_with (go_at_call 30; refine (H1.out _).mono ?_; rintro e W1 ⟨rfl, hb1⟩)
    go_wp2_with (go_at_call 31; refine (H2.out _ hb1).mono ?_; rintro e W2 ⟨rfl, hb2⟩)
    go_wp2_with (go_at_call 32; refine (H3.out _ (by have := (nxt hb1 hb2).size; exact this)).mono ?_; rintro e W3 ⟨rfl, hG3, hb3⟩)
    have hb3' := nxt (nxt hb1 hb2) hb3
    have hsz2 : w.heap.size ≤ W2.heap.size := (nxt hb1 hb2).size
    clear hb1 hb2 hb3
    generalize W2.heap.size + 1 = gp at hG3 ⊢
    generalize W2.heap.size = mp at hG3 hsz2
    clear W1 W2 H1 H2 H3
    go_loopw [32] (fun i wr => ∃ k : Nat, k ≤ l.length ∧ i = .int .i64 k ∧ Gat wr w.heap.size gp mp agg bound (foldR agg bound.toNat (l.take k)).1 (foldR agg bound.toNat (l.take k)).2 k ∧ Below w.heap.size w wr) (fun i _ => l.length - (intOf i).toNat)
    case atStart => exact ⟨0, by omega, rfl, hG3, hb3'⟩
    case round =>
      clear hG3 hb3'
      rename World => w0
      obtain ⟨k, hk, rfl, hG, hbel⟩ := hrel
      have hsz := hbel.size
      by_cases hlt : k < l.length
      · obtain ⟨⟨⟨ya, yb⟩, yv⟩, hy⟩ := getSome hlt
        have hwr := hwf _ (List.mem_of_getElem? hy)
        obtain ⟨a0, cap0, e0, hsh⟩ := id h
        injection e0 with e1 e2 e3
        subst e1 e3
        rcases hsh with rfl | ⟨b, off, rfl, hb, hat⟩
        · simp at hlt
        obtain ⟨c0, c1, c2⟩ := hat.below hbel hb k _ hy
        simp only at c0 c1 c2
        have hstep : l.take (k + 1) = l.take k ++ [((ya, yb), yv)] := by rw [List.take_add_one, hy]; rfl
        have HO := hidM (fun W => cone_any agg bound yv W)
        rw [oneR_of yv hw] at HO
        obtain ⟨Wa, hWa⟩ : ∃ Wa : World, Wa = w0.alloc (.cells #[.int .i64 ya, .string yb, .int .i64 yv] 54) := ⟨_, rfl⟩
        have hba : Below w0.heap.size w0 Wa := by rw [hWa]; exact (Below.refl _ _).alloc (Nat.le_refl _) _
        have hra : Wa.heap[w0.heap.size]? = some (.cells #[.int .i64 ya, .string yb, .int .i64 yv] 54 (0, 0)) := by rw [hWa]; exact heap_alloc_new w0 _
        have hsa : Wa.heap.size = w0.heap.size + 1 := by rw [hWa]; simp
        have HA := hidM hWa.symm
        obtain ⟨b0, b1, b2⟩ := blk3 hra
        have HR := hidM (show ∀ W, Below Wa.heap.size Wa W → W.cell? ⟨w0.heap.size, 0, none⟩ = some (.int .i64 ya) ∧ W.cell? ⟨w0.heap.size, 1, none⟩ = some (.string yb) from fun W hW => by
          obtain ⟨b0, b1, b2⟩ := blk3 ((hW.block w0.heap.size (by omega)).trans hra)
          exact ⟨b0, b1⟩)
        have HG := hidM (show ∀ W v, Below Wa.heap.size Wa W → CS W v (oneC agg yv) → Calls Try.prog 34 #[.pointer (some ⟨gp, 0, none⟩), keyV (ya, yb), v] W fun e w' => e = .returned (.tuple #[]) ∧ Gat w' w.heap.size gp mp agg bound (foldR agg bound.toNat (l.take (k + 1))).1 (foldR agg bound.toNat (l.take (k + 1))).2 (k + 1) ∧ Below w.heap.size w w' from fun W v hW hv => by
          have ho := okC_one hw (v := yv) ⟨hwr.v1, hwr.v2⟩
          have hbw := nxt hba hW
          have := add_any gp mp w.heap.size k agg bound (foldR agg bound.toNat (l.take k)) ((ya, yb), oneC agg yv) v W (hG.below hbw) (by have := hbw.size; omega) (by omega) (good_rec hwr) hv ho.2.2 (fold_rise _ _ _) ho.1 ho.2.1 (okC_fold _ hw (fun x hx => hwf x (List.mem_of_mem_take hx)))
          refine this.mono ?_
          rintro e w' ⟨rfl, g1, g2⟩
          rw [hstep, foldR_snoc]
          exact ⟨rfl, g1, (hbel.trans (hbw.mono hsz)).trans g2⟩)
        have hst : ∀ (W : World) (o : Obj), Below W.heap.size W (W.alloc o) := fun W o => (Below.refl _ _).alloc (Nat.le_refl _) _
        have HST := hidM hst
        clear hWa hra hG hbel hat hst
        go_wp2_with (go_at_call 33; rw [HA.out]; refine (HO.out _).mono ?_; rintro e W6 ⟨⟨v6, rfl, a6, c6, rfl, ho6⟩, hb6⟩; obtain ⟨r0, r1⟩ := HR.out _ hb6; obtain ⟨r0', r1'⟩ := HR.out _ (nxt hb6 (HST.out W6 (.cells #[.int .i64 (oneC agg yv).1, .slice a6 (oneC agg yv).2.length c6] 60))))
        refine (HG.out _ _ (nxt hb6 (HST.out W6 _)) ⟨a6, c6, rfl, (OwnL.ns ho6).below (HST.out W6 _)⟩).mono ?_
        rintro e w7 ⟨rfl, hG7, hb7⟩
        go_wp2
        go_roundw
        case rel => exact ⟨k + 1, by omega, by go_num, hG7, hb7⟩
        case measure => simp [intOf]; omega
      · have hlt' : l.length ≤ k := by omega
        rw [List.take_of_length_le hlt'] at hG
        have HR := hidM (rows_any gp mp w.heap.size k agg bound (foldR agg bound.toNat l) w0 hG hsz (fold_rise _ _ _) (good_fold _ _ hwf) (by have := len_fold agg bound.toNat l; omega))
        go_wp2_with (go_at_call 35; refine HR.out.mono ?_; rintro e w' ⟨⟨v', rfl, ho⟩, hb'⟩)
        go_ret2
        exact ⟨⟨_, rfl, ho⟩, hbel.trans hb'⟩
  · rw [if_neg hok]
    by_cases hw : wayC agg bound = true
    · rw [hw] at H1
      by_cases hl2 : l.length ≤ 1536
      · have hko : keysOk l = false := by
          cases hk : keysOk l with
          | false => rfl
          | true => exact absurd (by rw [hw, hk]; simpa using hl2) hok
        have hl3 : (decide ((1536 : Int) < (l.length : Int))) = false := decide_eq_false (by omega)
        rw [hko] at H2
        go_enter Try.func11, Try.ntmps11
        go_wp2_with (go_at_call 30; refine (H1.out _).mono ?_; rintro e W1 ⟨rfl, hb1⟩)
        go_wp2_with (go_at_call 31; refine (H2.out _ hb1).mono ?_; rintro e W2 ⟨rfl, hb2⟩)
        go_ret2
        exact ⟨⟨_, rfl, OwnW.nil _ _⟩, nxt hb1 hb2⟩
      · have hl3 : (decide ((1536 : Int) < (l.length : Int))) = true := decide_eq_true (by omega)
        go_enter Try.func11, Try.ntmps11
        go_wp2_with (go_at_call 30; refine (H1.out _).mono ?_; rintro e W1 ⟨rfl, hb1⟩)
        go_ret2
        exact ⟨⟨_, rfl, OwnW.nil _ _⟩, hb1⟩
    · rw [show wayC agg bound = false by simpa using hw] at H1
      go_enter Try.func11, Try.ntmps11
      go_wp2_with (go_at_call 30; refine (H1.out _).mono ?_; rintro e W1 ⟨rfl, hb1⟩)
      go_ret2
      exact ⟨⟨_, rfl, OwnW.nil _ _⟩, hb1⟩
end Go.Proofs.Yticpaemmdfmbfaa
