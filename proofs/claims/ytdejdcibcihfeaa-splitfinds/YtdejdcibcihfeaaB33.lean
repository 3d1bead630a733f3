/- split's own: find, doRise, areWaits, slices.Clone. -/
import Derived.Test.YtdejdcibcihfeaaB30
import Derived.Test.YtdejdcibcihfeaaB31
import Derived.Test.YtdejdcibcihfeaaB32
namespace Go.Proofs.Ytdejdcibcihfeaa
open Go.RowKit
set_option linter.unusedVariables false
set_option maxRecDepth 100000

theorem results_cellP {P : Program} {fn : Func} {t u : Tmp} {T : TypeId} {a : Addr} {x : Value} (h : fn.results = #[.cell t T, .tmp u]) {tmps : Array Value} {w : World} (hp : tmps.getD t undef = .pointer (some a)) (hl : (loadVar T a).run P w = .ok x w) :
    (results fn tmps).run P w = .ok (.tuple #[x, tmps.getD u undef]) w := by
  have hp' : tmps[t]?.getD undef = .pointer (some a) := by simpa using hp
  simp [results, h, hp', hl, asAddr]
theorem loadP {W : World} {b : Nat} {x0 x1 x2 : Value} (h : BlkP W b x0 x1 x2) : (loadVar 35 ⟨b, 0, none⟩).run Try.prog W = .ok (.agg #[x0, x1, x2]) W := by
  obtain ⟨h0, h1, h2⟩ := h.cells
  have a30 := Try.isAgg35
  have z30 := Try.sizeOf35
  have hc := run_loadCells_list (P := Try.prog) W ⟨b, 0, none⟩ [x0, x1, x2] (fun j v hj => by
    match j, hj with
    | 0, hj => simp at hj; subst hj; simpa [Addr.add] using h0
    | 1, hj => simp at hj; subst hj; simpa [Addr.add] using h1
    | 2, hj => simp at hj; subst hj; simpa [Addr.add] using h2)
  simp [loadVar, a30, z30]
  have hc' : (loadCells ⟨b, 0, none⟩ 3).run Try.prog W = .ok #[x0, x1, x2] W := hc
  rw [hc']
  rfl
theorem BlkP.set0 {W : World} {b : Nat} {x0 x1 x2 : Value} (h : BlkP W b x0 x1 x2) (y : Value) : BlkP (W.setCell ⟨b, 0, none⟩ y) b y x1 x2 := by
  unfold BlkP at h ⊢
  rw [heap_setCell_same W b 0 _ 35 y h]
  rfl
theorem BlkP.set1 {W : World} {b : Nat} {x0 x1 x2 : Value} (h : BlkP W b x0 x1 x2) (y : Value) : BlkP (W.setCell ⟨b, 1, none⟩ y) b x0 y x2 := by
  unfold BlkP at h ⊢
  rw [heap_setCell_same W b 1 _ 35 y h]
  rfl
theorem BlkP.set2 {W : World} {b : Nat} {x0 x1 x2 : Value} (h : BlkP W b x0 x1 x2) (y : Value) : BlkP (W.setCell ⟨b, 2, none⟩ y) b x0 x1 y := by
  unfold BlkP at h ⊢
  rw [heap_setCell_same W b 2 _ 35 y h]
  rfl
/-- What find tells. -/
def fR (c : Cfg) (i : Int) : Sp × Int := match findC c.splits i with
  | none => (s0, 3)
  | some k => (c.splits.getD k s0, 0)
theorem fR_some {c : Cfg} {i : Int} {k : Nat} {s : Sp} (hi : findC c.splits i = some k) (hs : c.splits[k]? = some s) : fR c i = (s, 0) := by
  unfold fR
  rw [hi]
  simp [List.getD_eq_getElem?_getD, hs]
theorem fR_none {c : Cfg} {i : Int} (hi : findC c.splits i = none) : fR c i = (s0, 3) := by
  unfold fR
  rw [hi]
/-- What find leaves. -/
def FndPost (c : Cfg) (id : Int) (w : World) (e : Ending) (w' : World) : Prop := (∃ a cap, e = .returned (.tuple #[.agg #[.int .i64 (fR c id).1.1, .string (fR c id).1.2.1, .slice a (fR c id).1.2.2.length cap], .int .i64 (fR c id).2]) ∧ NS w' (.slice a (fR c id).1.2.2.length cap) (fR c id).1.2.2) ∧ Below w.heap.size w w'
theorem put3 {w W : World} {b : Nat} (y0 y1 y2 : Value) (h : Below w.heap.size w W) (hb : w.heap.size ≤ b) : Below w.heap.size w (((W.setCell ⟨b, 0, none⟩ y0).setCell ⟨b, 1, none⟩ y1).setCell ⟨b, 2, none⟩ y2) := ((h.setCell (p := ⟨b, 0, none⟩) hb y0).setCell (p := ⟨b, 1, none⟩) hb y1).setCell (p := ⟨b, 2, none⟩) hb y2
set_option maxHeartbeats 800000 in
theorem sfind_any (c : Cfg) (v : Value) (id : Int) (w : World) (h : InC w c v) :
    Calls Try.prog 26 #[cfgV c v, .int .i64 id] w (FndPost c id w) := by
  have hlen := h.len
  obtain ⟨va, vc, rfl, hsh⟩ := h.ps
  clear h
  obtain ⟨W0, hW0⟩ : ∃ W0 : World, W0 = (w.alloc (.cells #[.int .i64 c.sites, .slice va c.splits.length vc, .int .i64 c.again, .int .i64 c.over] 24)).alloc (.cells #[.int .i64 0, .string ⟨#[]⟩, .slice none 0 0] 35) := ⟨_, rfl⟩
  have st : ∀ (W : World) (o : Obj), Below W.heap.size W (W.alloc o) := fun W o => (Below.refl _ _).alloc (Nat.le_refl _) _
  have hb0 : Below w.heap.size w W0 := by rw [hW0]; exact nxt (st _ _) (st _ _)
  have B0 : BlkF W0 w.heap.size (.int .i64 c.sites) (.slice va c.splits.length vc) (.int .i64 c.again) (.int .i64 c.over) := by rw [hW0]; exact (BlkF.new w _ _ _ _).below (st _ _)
  have B1 : BlkP W0 (w.heap.size + 1) (.int .i64 0) (.string ⟨#[]⟩) (.slice none 0 0) := by rw [hW0]; simpa using BlkP.new (w.alloc (.cells #[.int .i64 c.sites, .slice va c.splits.length vc, .int .i64 c.again, .int .i64 c.over] 24)) (.int .i64 0) (.string ⟨#[]⟩) (.slice none 0 0)
  obtain ⟨r0, r1, r2, r3⟩ := B0.cells
  have HW := hidM hW0.symm
  have HB0 := hidM hb0
  have HB1 := hidM B1
  clear hW0 hb0 B0 st B1
  go_enter Try.func26, Try.ntmps26
  go_wp2
  rw [HW.out]
  go_loopw [11] (fun i wr => ∃ k : Nat, k ≤ c.splits.length ∧ i = .int .i64 k ∧ Hid (∀ x ∈ c.splits.take k, x.1 ≠ id) ∧ Below W0.heap.size W0 wr) (fun i _ => c.splits.length - (intOf i).toNat)
  case atStart => exact ⟨0, by omega, rfl, (fun x hx => by simp at hx), Below.refl _ _⟩
  case round =>
    rename World => w0
    obtain ⟨k, hk, rfl, HO, hbel⟩ := hrel
    have hbw := nxt HB0.out hbel
    have B1 := HB1.out.below hbel
    have hz1 : w.heap.size + 1 < w0.heap.size := B1.lt
    by_cases hlt : k < c.splits.length
    · obtain ⟨⟨si, tx, sl⟩, hy⟩ := getSome hlt
      rcases hsh with hnil | ⟨b, off, rfl, hb, hat⟩
      · rw [hnil] at hlt; simp at hlt
      obtain ⟨-, -, sa, sc, c2', nsw, -⟩ := hat k _ hy
      obtain ⟨c0, c1, sa', sc', c2, ns, hcap⟩ := (hat.below hbw hb) k _ hy
      have e2 := ((hbw.cell (p := ⟨b, off + k * 3 + 2, none⟩) hb).trans c2').symm.trans c2
      injection e2 with e2
      injection e2 with e3 e4 e5
      subst e3 e5
      clear c2' e4
      simp only at c0 c1 c2 ns hcap nsw
      have hki0 : (0 : Int) ≤ (k : Int) := by omega
      have hki : (k : Int) < (c.splits.length : Int) := by omega
      obtain ⟨Wa, hWa⟩ : ∃ Wa : World, Wa = w0.alloc (.cells #[.int .i64 si, .string tx, .slice sa sl.length sc] 35) := ⟨_, rfl⟩
      have hba : Below w0.heap.size w0 Wa := by rw [hWa]; exact (Below.refl _ _).alloc (Nat.le_refl _) _
      have BP : BlkP Wa w0.heap.size (.int .i64 si) (.string tx) (.slice sa sl.length sc) := by rw [hWa]; exact BlkP.new w0 _ _ _
      have HWA := hidM (nxt hbel hba)
      have BA := B1.below hba
      have hbwa := nxt hbw hba
      obtain ⟨x0, x1, x2⟩ := BP.cells
      have HA := hidM hWa.symm
      clear hWa hba hat
      by_cases he : si = id
      · have HF := hidM (fR_some (c := c) (findC_at hy he HO.out) hy)
        have hbe : (si == id) = true := by simpa using he
        have st : ∀ (W : World) (o : Obj), Below W.heap.size W (W.alloc o) := fun W o => (Below.refl _ _).alloc (Nat.le_refl _) _
        have hbb := nxt (put3 (.int .i64 si) (.string tx) (.slice sa sl.length sc) hbw (Nat.le_succ _ : w.heap.size ≤ w.heap.size + 1)) (st _ (.cells #[.int .i64 si, .string tx, .slice sa sl.length sc] 35))
        have NB := hidM (nsw.below hbb)
        have BB := hidM hbb
        obtain ⟨a0, a1, a2⟩ := B1.cells
        have f0 := B1.free 0
        have f1 := (B1.set0 (.int .i64 si)).free 1
        have f2 := ((B1.set0 (.int .i64 si)).set1 (.string tx)).free 2
        obtain ⟨-, a1', a2'⟩ := (B1.set0 (.int .i64 si)).cells
        obtain ⟨-, -, a2''⟩ := ((B1.set0 (.int .i64 si)).set1 (.string tx)).cells
        have HR := hidM ((((B1.set0 (.int .i64 si)).set1 (.string tx)).set2 (.slice sa sl.length sc)).below (st _ (.cells #[.int .i64 si, .string tx, .slice sa sl.length sc] 35)))
        clear hy HO hbel hbw B1 ns nsw BA hbwa BP hbb he st HA x0 x1 x2
        go_wp2
        refine bodyPost_ret (results_cellP rfl rfl (loadP HR.out)) rfl ?_
        exact ⟨⟨sa, sc, by rw [HF.out]; rfl, by rw [HF.out]; exact NB.out⟩, BB.out⟩
      · have hbe : (si == id) = false := by simpa using he
        have HO2 := hidM (show ∀ x ∈ c.splits.take (k + 1), x.1 ≠ id from fun x hx => by
          rw [List.take_add_one, hy] at hx
          rcases List.mem_append.1 hx with hx | hx
          · exact HO.out x hx
          · simp at hx; subst hx; exact he)
        clear hy HO hbel hbw B1 ns nsw BA hbwa
        go_wp2
        go_roundw
        case rel => exact ⟨k + 1, by omega, by go_num, HO2.out, (by rw [HA.out]; exact HWA.out)⟩
        case measure => simp [intOf]; omega
    · have HF := hidM (fR_none (findC_none (fun x hx => HO.out x (by rw [List.take_of_length_le (by omega)]; exact hx))))
      have hlt' : ¬ (k : Int) < (c.splits.length : Int) := by omega
      have hbb := hidM (put3 (.int .i64 0) (.string ⟨#[]⟩) (.slice none 0 0) hbw (Nat.le_succ _ : w.heap.size ≤ w.heap.size + 1))
      obtain ⟨a0, a1, a2⟩ := B1.cells
      have f0 := B1.free 0
      have f1 := (B1.set0 (.int .i64 0)).free 1
      have f2 := ((B1.set0 (.int .i64 0)).set1 (.string ⟨#[]⟩)).free 2
      obtain ⟨-, a1', a2'⟩ := (B1.set0 (.int .i64 0)).cells
      obtain ⟨-, -, a2''⟩ := ((B1.set0 (.int .i64 0)).set1 (.string ⟨#[]⟩)).cells
      have HR := hidM (((B1.set0 (.int .i64 0)).set1 (.string ⟨#[]⟩)).set2 (.slice none 0 0))
      clear hbw B1 hbel
      go_wp2
      refine bodyPost_ret (results_cellP rfl rfl (loadP HR.out)) rfl ?_
      exact ⟨⟨none, 0, by rw [HF.out]; rfl, by rw [HF.out]; exact ⟨none, 0, rfl, .inl rfl⟩⟩, hbb.out⟩
set_option maxHeartbeats 400000 in
theorem cloneN_any (v : Value) (l : List Int) (w : World) (h : NS w v l) (hl : l.length ≤ 17592186043904) :
    Calls Try.prog 27 #[v] w fun e w' => (∃ v', e = .returned v' ∧ OwnN w' w.heap.size v' l) ∧ Below w.heap.size w w' := by
  have q22 : ∀ (w : World) (a : Option Addr) (n c : Nat), (binOp .eql 25 (.slice a n c) (.slice none 0 0)).run Try.prog w = .ok (.bool a.isNone) w := fun w a n c => Lib.run_eql_slice_nil w _ _ a n c 0 0 Try.underlying25
  have H := h
  obtain ⟨a, cap, rfl, hsh⟩ := h
  cases a with
  | none =>
    have hl0 : l = [] := by
      rcases hsh with h | ⟨b, off, h, -⟩
      · exact h
      · cases h
    subst hl0
    go_enter Try.func27, Try.ntmps27
    go_wp2
    go_ret
    exact ⟨⟨_, rfl, World.ownsRow_nil _ _ _ _⟩, Below.refl _ _⟩
  | some ad =>
    have st : ∀ (W : World) (o : Obj), Below W.heap.size W (W.alloc o) := fun W o => (Below.refl _ _).alloc (Nat.le_refl _) _
    have hown : OwnN (w.alloc (.cells #[] 3)) w.heap.size (.slice (some ⟨w.heap.size, 0, none⟩) 0 0) [] := World.ownsRow_made w #[] 0 (Nat.le_refl _) (Nat.zero_le _) (by simp)
    obtain ⟨v4, W4, q1, q2, q3, q4⟩ := append_is 25 hown (H.below (st w (.cells #[] 3))) (by simp; omega) (by have := (st w (.cells #[] 3)).size; omega)
    have U1 := hidM q1
    have hb := hidM (Below.grown (st w (.cells #[] 3)) q3 (by have := (st w (.cells #[] 3)).size; omega) (own_rowN hown))
    clear q1 q3 q4
    go_enter Try.func27, Try.ntmps27
    go_wp2_with (at_builtin; refine wpList_append_run _ rfl _ _ _ rfl _ _ v4 W4 rfl rfl U1.out ?_)
    go_ret
    exact ⟨⟨_, rfl, by simpa using q2⟩, hb.out⟩
/-- The last of the first k; 0 ahead of all. -/
def lastN (l : List Int) (k : Nat) : Int := match k with
  | 0 => 0
  | k + 1 => l.getD k 0
theorem lastN_at {l : List Int} {k : Nat} {x : Int} (h : l[k]? = some x) : lastN l (k + 1) = x := by simp [lastN, List.getD_eq_getElem?_getD, h]
theorem RisTo.low {hi : Int} {l : List Int} {k : Nat} (h : RisTo 1 hi l k) (hk : k ≤ l.length) : 0 ≤ lastN l k := by
  cases k with
  | zero => exact Int.le_refl _
  | succ k =>
    obtain ⟨x, hx⟩ := getSome (l := l) (i := k) (by omega)
    rw [lastN_at hx]
    have := (h.all x (by rw [List.take_add_one, hx]; simp)).1
    omega
theorem RisTo.next {hi : Int} {l : List Int} {k : Nat} {x : Int} (h : RisTo 1 hi l k) (hx : l[k]? = some x) (h1 : lastN l k < x) (h2 : x ≤ hi) : RisTo 1 hi l (k + 1) := by
  have hk := (List.getElem?_eq_some_iff.1 hx).1
  have h0 := h.low (by omega)
  refine h.step hx ⟨by omega, h2⟩ fun m y hm hy => ?_
  subst hm
  rwa [lastN_at hy] at h1
theorem risL_last {hi : Int} {l : List Int} {k : Nat} {x : Int} (hx : l[k]? = some x) (h : ¬ lastN l k < x) : risL 1 hi l = false := by
  cases k with
  | zero => exact risL_bad hx (fun e => h (by have := e.1; show (0 : Int) < x; omega))
  | succ m =>
    obtain ⟨y, hy⟩ := getSome (l := l) (i := m) (by have := (List.getElem?_eq_some_iff.1 hx).1; omega)
    rw [lastN_at hy] at h
    exact risL_two rfl hy hx h
set_option maxHeartbeats 800000 in
theorem doRise_any (hi : Int) (v : Value) (l : List Int) (w : World) (h : NS w v l) (hl : l.length ≤ 17592186043904) :
    Calls Try.prog 31 #[v, .int .i64 hi] w fun e w' => e = .returned (.bool (risL 1 hi l)) ∧ w' = w := by
  obtain ⟨va, vc, rfl, hsh⟩ := h
  go_enter Try.func31, Try.ntmps31
  go_wp2
  go_loop [5, 10] (fun la i => ∃ k : Nat, k ≤ l.length ∧ i = .int .i64 k ∧ Hid (RisTo 1 hi l k) ∧ la = .int .i64 (lastN l k)) (fun _ i => l.length - (intOf i).toNat)
  case atStart => exact ⟨0, by omega, rfl, RisTo.start _ _ _, rfl⟩
  case round =>
    obtain ⟨k, hk, rfl, HO, rfl⟩ := hrel
    by_cases hlt : k < l.length
    · obtain ⟨x, hx⟩ := getSome hlt
      rcases hsh with rfl | ⟨b, off, rfl, hb, hat⟩
      · simp at hlt
      have c0 := hat k x hx
      have hk0 : (0 : Int) ≤ (k : Int) := by omega
      have hki : (k : Int) < (l.length : Int) := by omega
      by_cases h1 : lastN l k < x
      · have d1 : decide (x ≤ lastN l k) = false := decide_eq_false (by omega)
        by_cases h2 : x ≤ hi
        · have d2 : decide (hi < x) = false := decide_eq_false (by omega)
          have HO2 := hidM (HO.out.next hx h1 h2)
          have HL := hidM (lastN_at hx)
          clear hat hx HO
          go_wp2
          go_round
          case rel => exact ⟨k + 1, by omega, by go_num, HO2.out, by rw [HL.out]⟩
          case measure => simp [intOf]; omega
        · have d2 : decide (hi < x) = true := decide_eq_true (by omega)
          have HF := hidM (risL_bad (lo := 1) (hi := hi) hx (by omega))
          clear hat hx HO
          go_wp2
          go_ret
          exact ⟨by rw [HF.out]; rfl, rfl⟩
      · have d1 : decide (x ≤ lastN l k) = true := decide_eq_true (by omega)
        have HF := hidM (risL_last (hi := hi) hx h1)
        clear hat hx HO
        go_wp2
        go_ret
        exact ⟨by rw [HF.out]; rfl, rfl⟩
    · have HF := hidM (HO.out.fin (by omega))
      have hlt' : l.length ≤ k := by omega
      go_wp2
      go_ret
      exact ⟨by rw [HF.out]; rfl, rfl⟩
def waitsB (a o : Int) : Bool := decide (1 ≤ a ∧ a ≤ 16) && (decide (16 ≤ o ∧ o ≤ 64) && decide (2 * a ≤ o))
theorem areWaits_any (a o : Int) (w : World) : Calls Try.prog 24 #[.int .i64 a, .int .i64 o] w fun e w' => e = .returned (.bool (waitsB a o)) ∧ w' = w := by
  have key : ∀ b, waitsB a o = b → Calls Try.prog 24 #[.int .i64 a, .int .i64 o] w fun e w' => e = .returned (.bool b) ∧ w' = w := by
    intro b hb
    unfold waitsB at hb
    by_cases h1 : 1 ≤ a
    · have d1 : decide (1 ≤ a) = true := decide_eq_true h1
      by_cases h2 : a ≤ 16
      · have d2 : decide (a ≤ 16) = true := decide_eq_true h2
        by_cases h3 : 16 ≤ o
        · have d3 : decide (16 ≤ o) = true := decide_eq_true h3
          by_cases h4 : o ≤ 64
          · have d4 : decide (o ≤ 64) = true := decide_eq_true h4
            have hw : IntKind.i64.wrap (2 * a) = 2 * a := by rw [IntKind.wrap_i64]; omega
            by_cases h5 : 2 * a ≤ o
            · have d5 : decide (2 * a ≤ o) = true := decide_eq_true h5
              obtain rfl : b = true := by rw [← hb, decide_eq_true (show 1 ≤ a ∧ a ≤ 16 from ⟨h1, h2⟩), decide_eq_true (show 16 ≤ o ∧ o ≤ 64 from ⟨h3, h4⟩), d5]; rfl
              clear hb h1 h2 h3 h4 h5
              go_enter Try.func24, Try.ntmps24
              go_wp2
              go_ret
              exact ⟨rfl, rfl⟩
            · have d5 : decide (2 * a ≤ o) = false := decide_eq_false h5
              obtain rfl : b = false := by rw [← hb, d5, Bool.and_false, Bool.and_false]
              clear hb h1 h2 h3 h4 h5
              go_enter Try.func24, Try.ntmps24
              go_wp2
              go_ret
              exact ⟨rfl, rfl⟩
          · have d4 : decide (o ≤ 64) = false := decide_eq_false h4
            obtain rfl : b = false := by rw [← hb, decide_eq_false (show ¬ (16 ≤ o ∧ o ≤ 64) from fun e => h4 e.2), Bool.false_and, Bool.and_false]
            clear hb h1 h2 h3 h4
            go_enter Try.func24, Try.ntmps24
            go_wp2
            go_ret
            exact ⟨rfl, rfl⟩
        · have d3 : decide (16 ≤ o) = false := decide_eq_false h3
          obtain rfl : b = false := by rw [← hb, decide_eq_false (show ¬ (16 ≤ o ∧ o ≤ 64) from fun e => h3 e.1), Bool.false_and, Bool.and_false]
          clear hb h1 h2 h3
          go_enter Try.func24, Try.ntmps24
          go_wp2
          go_ret
          exact ⟨rfl, rfl⟩
      · have d2 : decide (a ≤ 16) = false := decide_eq_false h2
        obtain rfl : b = false := by rw [← hb, decide_eq_false (show ¬ (1 ≤ a ∧ a ≤ 16) from fun e => h2 e.2), Bool.false_and]
        clear hb h1 h2
        go_enter Try.func24, Try.ntmps24
        go_wp2
        go_ret
        exact ⟨rfl, rfl⟩
    · have d1 : decide (1 ≤ a) = false := decide_eq_false h1
      obtain rfl : b = false := by rw [← hb, decide_eq_false (show ¬ (1 ≤ a ∧ a ≤ 16) from fun e => h1 e.1), Bool.false_and]
      clear hb h1
      go_enter Try.func24, Try.ntmps24
      go_wp2
      go_ret
      exact ⟨rfl, rfl⟩
  exact key _ rfl
end Go.Proofs.Ytdejdcibcihfeaa
