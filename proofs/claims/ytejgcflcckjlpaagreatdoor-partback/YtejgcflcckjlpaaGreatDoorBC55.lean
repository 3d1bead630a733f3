/- Texts laid together: WRFold, WLaw. -/
import Derived.Test.YtejgcflcckjlpaaGreatDoorBC36M
import Derived.Test.YtejgcflcckjlpaaGreatDoorBC38
import Derived.Test.YtejgcflcckjlpaaGreatDoorBC27
import Derived.Test.YtejgcflcckjlpaaGreatDoorBC33M
import Derived.Test.YtejgcflcckjlpaaGreatDoorBC29
/- The page's own Fold, Recs. -/
namespace Go.Proofs.YtejgcflcckjlpaaGreatDoor
open Go.RowKit
set_option linter.unusedVariables false
set_option maxRecDepth 100000
theorem ones_snoc (agg : Int) {l : List Rc} {k : Nat} {x : Rc} (hx : l[k]? = some x) : ones agg (l.take (k + 1)) = ones agg (l.take k) ++ [(x.1, oneC agg x.2)] := by
  rw [List.take_add_one, hx]
  unfold ones
  simp
theorem ones_len (agg : Int) (l : List Rc) : (ones agg l).length = l.length := by unfold ones; simp
end Go.Proofs.YtejgcflcckjlpaaGreatDoor
/- What is played: Heavy, num, wakes; the rows of a fold. -/
namespace Go.Proofs.YtejgcflcckjlpaaGreatDoor
open Go.RowKit
set_option linter.unusedVariables false
theorem weight_any (v : Value) (l : List Rc) (w : World) (h : RS w v l) (hl : l.length ≤ 4398046510976) (hwf : Wf l) : Calls Tryz.prog 16 #[v] w fun e w' => (∃ n : Int, e = .returned (.int .i64 n) ∧ (l.length : Int) ≤ n ∧ n ≤ 200000000000000) ∧ w' = w := by
  obtain ⟨a, cap, rfl, h⟩ := h
  rcases h with rfl | ⟨b, off, rfl, hb, hat⟩
  · go_enter Tryz.func16, Tryz.ntmps16
    go_wp2
    go_loop [3, 4] (fun n i => n = .int .i64 0 ∧ i = .int .i64 0) (fun _ _ => 0)
    case atStart => exact ⟨rfl, rfl⟩
    case round =>
      obtain ⟨rfl, rfl⟩ := hrel
      go_wp2
      go_ret
      exact ⟨⟨_, rfl, by simp, by simp⟩, rfl⟩
  · go_enter Tryz.func16, Tryz.ntmps16
    go_wp2
    go_loop [3, 4] (fun n i => ∃ (k : Nat) (x : Int), k ≤ l.length ∧ i = .int .i64 k ∧ n = .int .i64 x ∧ (l.length : Int) ≤ x ∧ x ≤ 200000000000000) (fun _ i => l.length - (intOf i).toNat)
    case atStart => exact ⟨0, _, by omega, rfl, rfl, by omega, by omega⟩
    case round =>
      obtain ⟨k, x, hk, rfl, rfl, hlx, hxb⟩ := hrel
      by_cases hlt : k < l.length
      · obtain ⟨y, hy⟩ := getSome hlt
        obtain ⟨c0, c1, c2⟩ := hat k y hy
        have hsz := (hwf y (List.mem_of_getElem? hy)).txt
        obtain ⟨⟨ya, yb⟩, yv⟩ := y
        simp only at hsz c0 c1 c2
        clear hat hy
        by_cases hx : x < 1048576
        · go_wp2
          go_round
          case rel => exact ⟨k + 1, _, by omega, by go_num, rfl, by omega, by omega⟩
          case measure => simp [intOf]; omega
        · have hx' : (1048576 : Int) ≤ x := by omega
          go_wp2
          go_ret
          exact ⟨⟨_, rfl, hlx, hxb⟩, rfl⟩
      · have hlt' : l.length ≤ k := by omega
        go_wp2
        go_ret
        exact ⟨⟨_, rfl, hlx, hxb⟩, rfl⟩
/-- What rows weigh. -/
def WeighR (l : List Rw) (e : Ending) : Prop := ∃ n : Int, e = .returned (.int .i64 n) ∧ (l.length : Int) ≤ n ∧ n ≤ 200000000000000 ∧ (n < 1048576 → ∀ r ∈ l, (r.2.2.length : Int) ≤ n)
set_option maxHeartbeats 800000 in
theorem rweight_any (v : Value) (l : List Rw) (w : World) (h : WS w v l) (hl : l.length ≤ 17592186043904) (hwf : WfRs l) : Calls Tryz.prog 17 #[v] w fun e w' => WeighR l e ∧ Drawn w w' := by
  obtain ⟨a, cap, rfl, h⟩ := h
  rcases h with rfl | ⟨b, off, rfl, hb, hat⟩
  · go_enter Tryz.func17, Tryz.ntmps17
    go_wp2
    go_loop [3, 4] (fun n i => n = .int .i64 0 ∧ i = .int .i64 0) (fun _ _ => 0)
    case atStart => exact ⟨rfl, rfl⟩
    case round =>
      obtain ⟨rfl, rfl⟩ := hrel
      go_wp2
      go_ret
      exact ⟨⟨_, rfl, by simp, by simp, by simp⟩, Drawn.refl _⟩
  · go_enter Tryz.func17, Tryz.ntmps17
    go_wp2
    go_loopw [3, 4] (fun n i wr => ∃ (k : Nat) (x : Int), k ≤ l.length ∧ i = .int .i64 k ∧ n = .int .i64 x ∧ (l.length : Int) ≤ x ∧ x ≤ 200000000000000 ∧ (∀ r ∈ l.take k, (r.2.2.length : Int) ≤ x) ∧ Drawn w wr) (fun _ i _ => l.length - (intOf i).toNat)
    case atStart => exact ⟨0, _, by omega, rfl, rfl, by omega, by omega, by simp, Drawn.refl _⟩
    case round =>
      rename World => w0
      obtain ⟨k, x, hk, rfl, rfl, hlx, hxb, hall, hd⟩ := hrel
      by_cases hlt : k < l.length
      · obtain ⟨y, hy⟩ := getSome hlt
        obtain ⟨c0, c1, c2, s1, p1, c3, -⟩ := (hat.below (hd.below _) hb) k y hy
        have hw := hwf y (List.mem_of_getElem? hy)
        have hsz := hw.k.2
        have hsl := hw.l
        have hstep : l.take (k + 1) = l.take k ++ [y] := by rw [List.take_add_one, hy]; rfl
        obtain ⟨⟨ya, yb⟩, yn, yl⟩ := y
        simp only at hsz hsl c0 c1 c2 c3
        have HALL := hidM (show ∀ z : Int, x + yb.size + yl.length = z → ∀ r ∈ l.take (k + 1), (r.2.2.length : Int) ≤ z from fun z hz r hr => by
          rw [hstep] at hr
          rcases List.mem_append.1 hr with hr | hr
          · have := hall r hr; omega
          · simp at hr; subst hr; show (yl.length : Int) ≤ z; omega)
        have HD := hidM hd
        have HA := hidM hall
        clear hat hy hw hd hall hstep
        by_cases hx : x < 1048576
        · go_wp2
          go_quiet (fail)
          have HD2 := hidM (HD.out.step nq)
          go_wp2
          go_roundw
          case rel => exact ⟨k + 1, _, by omega, by go_num, rfl, by omega, by omega, HALL.out _ rfl, HD2.out⟩
          case measure => simp [intOf]; omega
        · have hx' : (1048576 : Int) ≤ x := by omega
          go_wp2
          go_ret
          exact ⟨⟨_, rfl, hlx, hxb, fun h => absurd h (by omega)⟩, HD.out⟩
      · have hlt' : l.length ≤ k := by omega
        rw [List.take_of_length_le hlt'] at hall
        have HA := hidM hall
        go_wp2
        go_ret
        exact ⟨⟨_, rfl, hlx, hxb, fun _ => HA.out⟩, hd⟩
/-- What is asked of small things alone. -/
structure Small (L : List (List Rw)) (l : List Rc) (x : ByteArray) : Prop where
  hL : L.length ≤ 6000
  hr : ∀ r ∈ L, r.length ≤ 6000 ∧ ∀ y ∈ r, y.2.2.length ≤ 6000
  hl : l.length ≤ 6000
  hx : x.size ≤ 6000
def HvR (L : List (List Rw)) (l : List Rc) (x : ByteArray) (e : Ending) : Prop := ∃ r, e = .returned (.bool r) ∧ (r = false → Small L l x)
abbrev askV (agg bound : Int) (vl vv : Value) (x : ByteArray) : Value := .agg #[.int .i64 agg, .int .i64 bound, vl, vv, .string x]
abbrev askO (agg bound : Int) (vl vv : Value) (x : ByteArray) : Obj := .cells #[.int .i64 agg, .int .i64 bound, vl, vv, .string x] 25
/-- The block of what is asked. -/
def BlkA (W : World) (b : Nat) (agg bound : Int) (vl vv : Value) (x : ByteArray) : Prop := W.heap[b]? = some (.cells #[.int .i64 agg, .int .i64 bound, vl, vv, .string x] 25 (0, 0))
theorem BlkA.new (W : World) (agg bound : Int) (vl vv : Value) (x : ByteArray) : BlkA (W.alloc (askO agg bound vl vv x)) W.heap.size agg bound vl vv x := heap_alloc_new W _
theorem BlkA.lt {W : World} {b : Nat} {agg bound : Int} {vl vv : Value} {x : ByteArray} (h : BlkA W b agg bound vl vv x) : b < W.heap.size := (Array.getElem?_eq_some_iff.1 h).1
theorem BlkA.below {W W' : World} {b : Nat} {agg bound : Int} {vl vv : Value} {x : ByteArray} (h : BlkA W b agg bound vl vv x) (hb : Below W.heap.size W W') : BlkA W' b agg bound vl vv x := by unfold BlkA; rw [hb.block b h.lt]; exact h
theorem BlkA.cells {W : World} {b : Nat} {agg bound : Int} {vl vv : Value} {x : ByteArray} (h : BlkA W b agg bound vl vv x) : W.cell? ⟨b, 0, none⟩ = some (.int .i64 agg) ∧ W.cell? ⟨b, 1, none⟩ = some (.int .i64 bound) ∧ W.cell? ⟨b, 2, none⟩ = some vl ∧ W.cell? ⟨b, 3, none⟩ = some vv ∧ W.cell? ⟨b, 4, none⟩ = some (.string x) := by
  unfold BlkA at h
  refine ⟨?_, ?_, ?_, ?_, ?_⟩ <;> simp [World.cell?, h]
set_option maxHeartbeats 800000 in
theorem heavy_any (agg bound : Int) (vl vv : Value) (x : ByteArray) (L : List (List Rw)) (l : List Rc) (w : World) (h : In10 w agg bound vl vv x L l) :
    Calls Tryz.prog 4 #[askV agg bound vl vv x] w fun e w' => HvR L l x e ∧ Below w.heap.size w w' := by
  have hb0 := (Below.refl w.heap.size w).alloc (Nat.le_refl _) (askO agg bound vl vv x)
  have hA := BlkA.new w agg bound vl vv x
  obtain ⟨W0, hW0⟩ : ∃ W0 : World, W0 = w.alloc (askO agg bound vl vv x) := ⟨_, rfl⟩
  rw [← hW0] at hb0 hA
  have hL := h.hL.1.below hb0
  have hLl : (L.length : Int) ≤ 17592186043904 := by have := h.hL.2.1; omega
  have HWF := hidM h.hL.2.2
  have hx : (x.size : Int) ≤ 140737488351232 := by have := h.hx; omega
  have H1 := hidM (fun W (hW : Below W0.heap.size W0 W) => weight_any vv l W ((h.hl.1.below hb0).below hW) h.hl.2.1 h.hl.2.2)
  obtain ⟨av, cv, rfl, -⟩ := h.hl.1
  obtain ⟨aL, cL, rfl, hL⟩ := hL
  have HA := hidM (show ∀ W, Below W0.heap.size W0 W → W.cell? ⟨w.heap.size, 2, none⟩ = some (.slice aL L.length cL) ∧ W.cell? ⟨w.heap.size, 3, none⟩ = some (.slice av l.length cv) ∧ W.cell? ⟨w.heap.size, 4, none⟩ = some (.string x) from fun W hW =>
    ⟨(hA.below hW).cells.2.2.1, (hA.below hW).cells.2.2.2.1, (hA.below hW).cells.2.2.2.2⟩)
  obtain ⟨a2, a3, a4⟩ := HA.out W0 (Below.refl _ _)
  have HB := hidM hb0
  have HL := hidM hL
  have HW := hidM hW0.symm
  clear h hL hb0 hA hW0
  go_enter Tryz.func4, Tryz.ntmps4
  go_wp2_with fail
  rw [HW.out]
  go_region_held3 (fun W => W.cell? ⟨w.heap.size, 2, none⟩ = some (.slice aL L.length cL) ∧ W.cell? ⟨w.heap.size, 3, none⟩ = some (.slice av l.length cv) ∧ W.cell? ⟨w.heap.size, 4, none⟩ = some (.string x))
    (first | exact HA.out _ (Below.refl _ _).drew | assumption)
    (first | (go_at_call 16; refine (H1.out _ (Below.refl _ _).drew).mono ?_; rintro e w' ⟨⟨n1, rfl, hn1, hn2⟩, rfl⟩))
  have e1 : IntKind.i64.wrap ((L.length : Int) + n1) = (L.length : Int) + n1 := by rw [IntKind.wrap_i64]; omega
  have e2 : IntKind.i64.wrap ((L.length : Int) + n1 + (x.size : Int)) = (L.length : Int) + n1 + (x.size : Int) := by rw [IntKind.wrap_i64]; omega
  rw [e1, e2]
  obtain ⟨z0, hz0⟩ : ∃ z0 : Int, z0 = (L.length : Int) + n1 + (x.size : Int) := ⟨_, rfl⟩
  obtain ⟨t1, ht1⟩ : ∃ t1 : Int, t1 = (L.length : Int) + n1 := ⟨_, rfl⟩
  rw [← hz0, ← ht1]
  have hz1 : (L.length : Int) + l.length + x.size ≤ z0 := by omega
  have hz2 : z0 ≤ 400000000000000 := by omega
  have HZ := hidM hz1
  clear e1 e2 hz0 ht1 hn1 hn2 hz1 a2 a3 a4 H1
  go_wp2
  go_loopw [3, 4] (fun n i wr => ∃ (k : Nat) (z : Int), k ≤ L.length ∧ i = .int .i64 k ∧ n = .int .i64 z ∧ z0 ≤ z ∧ z ≤ 800000000000000 ∧ (z < 1048576 → ∀ r ∈ L.take k, (r.length : Int) ≤ z ∧ ∀ y ∈ r, (y.2.2.length : Int) ≤ z) ∧ Drawn W0 wr) (fun _ i _ => L.length - (intOf i).toNat)
  case atStart => exact ⟨0, z0, by omega, rfl, rfl, by omega, by omega, fun _ r hr => by simp at hr, ⟨1, rfl⟩⟩
  case round =>
    rename World => w1
    obtain ⟨k, z, hk, rfl, rfl, hzz, hzb, hall, hd⟩ := hrel
    obtain ⟨a2, a3, a4⟩ := HA.out w1 (hd.below _)
    by_cases hlt : k < L.length
    · by_cases hz : z < 1048576
      · obtain ⟨r, hr⟩ := getSome hlt
        obtain ⟨b, off, u, rfl, hu, hws⟩ : ∃ b off u, aL = some ⟨b, off, none⟩ ∧ w1.cell? ⟨b, off + k, none⟩ = some u ∧ WS w1 u r := by
          rcases HL.out with e | ⟨b, off, rfl, hb, hat⟩
          · rw [e] at hr; simp at hr
          · obtain ⟨u, h1, h2, -⟩ := (hat.below (hd.below _) hb) k r hr
            exact ⟨b, off, u, rfl, h1, h2⟩
        obtain ⟨q1, q2⟩ := HWF.out r (List.mem_of_getElem? hr)
        have HC := hidM (rweight_any u r w1 hws q1 q2)
        have hstep : L.take (k + 1) = L.take k ++ [r] := by rw [List.take_add_one, hr]; rfl
        have HALL := hidM (show ∀ n2 : Int, (r.length : Int) ≤ n2 → (n2 < 1048576 → ∀ y ∈ r, (y.2.2.length : Int) ≤ n2) → z + n2 < 1048576 → ∀ r' ∈ L.take (k + 1), (r'.length : Int) ≤ z + n2 ∧ ∀ y ∈ r', (y.2.2.length : Int) ≤ z + n2 from fun n2 h1 h2 h3 r' hr' => by
          rw [hstep] at hr'
          have hz0 : 0 ≤ z := by have := HZ.out; omega
          rcases List.mem_append.1 hr' with hr' | hr'
          · obtain ⟨p1, p2⟩ := hall (by omega) r' hr'
            exact ⟨by omega, fun y hy => by have := p2 y hy; omega⟩
          · simp at hr'
            subst hr'
            exact ⟨by omega, fun y hy => by have := h2 (by omega) y hy; omega⟩)
        have HD := hidM hd
        have hz0' : 0 ≤ z := by have := HZ.out; omega
        obtain ⟨ua, uc, rfl, -⟩ := hws
        clear hall hd hstep hr q1 q2
        go_wp2_with (go_at_call 17; refine HC.out.mono ?_; rintro e w2 ⟨⟨n2, rfl, hn1, hn2, hn3⟩, q, rfl⟩)
        have HF := hidM (HALL.out n2 hn1 hn3)
        have HD2 := hidM (HD.out.step q)
        clear hn3 HALL
        go_wp2
        go_roundw
        case rel => exact ⟨k + 1, _, by omega, by go_num, rfl, by omega, by omega, HF.out, HD2.out⟩
        case measure => simp [intOf]; omega
      · have hz' : (1048576 : Int) ≤ z := by omega
        have hgt : (6000 : Int) < z := by omega
        have HD := hidM hd
        go_wp2
        go_ret
        exact ⟨⟨_, rfl, fun h => by first | (simp at h; omega) | simp at h⟩, nxt HB.out (HD.out.below _)⟩
    · have hlt' : L.length ≤ k := by omega
      rw [List.take_of_length_le hlt'] at hall
      have HD := hidM hd
      have HALL := hidM hall
      clear hall hd
      go_wp2
      go_ret
      refine ⟨⟨_, rfl, fun h => ?_⟩, nxt HB.out (HD.out.below _)⟩
      simp at h
      have hz1 := HZ.out
      have hf := HALL.out (by omega)
      exact ⟨by omega, fun r hr => by
        obtain ⟨p1, p2⟩ := hf r hr
        exact ⟨by omega, fun y hy => by have := p2 y hy; omega⟩, by omega, by omega⟩
end Go.Proofs.YtejgcflcckjlpaaGreatDoor
namespace Go.Proofs.YtejgcflcckjlpaaGreatDoor
open Go.RowKit
set_option linter.unusedVariables false
set_option maxRecDepth 100000
theorem In10.below {W W' : World} {agg bound : Int} {vl vv : Value} {x : ByteArray} {L : List (List Rw)} {l : List Rc} (h : In10 W agg bound vl vv x L l) (hb : Below W.heap.size W W') : In10 W' agg bound vl vv x L l :=
  ⟨h.hagg, h.hbound, ⟨h.hL.1.below hb, h.hL.2⟩, h.hLcap, ⟨h.hl.1.below hb, h.hl.2⟩, h.hcap, h.hx⟩
theorem fin_len (agg : Int) (bd : Nat) (l : List Rc) : (fin (foldR agg bd l)).1.length ≤ l.length := by
  have := len_fold agg bd l
  unfold fin
  split
  · exact this
  · simp
theorem fin_sets {agg bound : Int} {l : List Rc} (hw : wayC agg bound = true) (hl : Wf l) : ∀ r ∈ (fin (foldR agg bound.toNat l)).1, r.2.2.length ≤ 100000 := by
  intro r hr
  unfold fin at hr
  split at hr
  · have := (okC_fold l hw hl _ _ (mem_look (fold_rise _ _ _) hr)).2.2
    omega
  · simp at hr
theorem RS.take {w : World} {a : Option Addr} {cap : Nat} {l : List Rc} (h : RS w (.slice a l.length cap) l) (k : Nat) (hk : k ≤ l.length) (cap' : Nat) : RS w (.slice a k cap') (l.take k) := by
  obtain ⟨a', c', e, h⟩ := h
  injection e with e1 e2 e3
  subst e1
  refine ⟨a, cap', by simp [hk], ?_⟩
  rcases h with rfl | ⟨b, off, rfl, hb, hat⟩
  · exact .inl (by simp)
  · refine .inr ⟨b, off, rfl, hb, fun i r hr => hat i r ?_⟩
    have hi := (List.getElem?_eq_some_iff.1 hr).1
    rw [List.length_take] at hi
    rwa [List.getElem?_take_of_lt (by omega)] at hr
theorem Wf.take {l : List Rc} (h : Wf l) (k : Nat) : Wf (l.take k) := fun x hx => h x (List.mem_of_mem_take hx)
theorem keysOk_mem {l : List Rc} : keysOk l = true ↔ ∀ x ∈ l, x.1.2.size ≤ 64 := by
  unfold keysOk
  rw [List.all_eq_true]
  constructor
  · intro h x hx; have := h x hx; simpa using this
  · intro h x hx; simpa using h x hx
theorem keysOk_take {l : List Rc} (h : keysOk l = true) (k : Nat) : keysOk (l.take k) = true := keysOk_mem.2 fun x hx => keysOk_mem.1 h x (List.mem_of_mem_take hx)
/-- The rows of a fold may be. -/
theorem fine_fold {agg bound : Int} {l : List Rc} (hw : wayC agg bound = true) (hk : keysOk l = true) (hwf : Wf l) (hl : l.length ≤ 1536) : FineR agg bound (foldR agg bound.toNat l).1 := by
  have hr := fold_rise agg bound.toNat l
  have hc : ∀ r ∈ (foldR agg bound.toNat l).1, OkC agg bound r.2 := fun r hr' => okC_fold l hw hwf _ _ (mem_look hr hr')
  refine ⟨?_, hc, good_fold agg bound.toNat hwf⟩
  unfold okRows
  rw [hw, Bool.true_and, Bool.and_eq_true, Bool.and_eq_true, decide_eq_true_eq, decide_eq_true_eq, List.all_eq_true]
  refine ⟨⟨by have := len_fold agg bound.toNat l; omega, fun r hr' => ?_⟩, hr⟩
  rw [Bool.and_eq_true, decide_eq_true_eq]
  refine ⟨?_, (hc r hr').1⟩
  have h1 := mem_look hr hr'
  obtain ⟨y, hy, e⟩ := (keys_gat (joinC agg bound.toNat) (ones agg l) r.1).1 (by unfold foldR at h1; rw [h1]; rfl)
  unfold ones at hy
  obtain ⟨z, hz, rfl⟩ := List.mem_map.1 hy
  rw [← e]
  exact keysOk_mem.1 hk z hz
theorem foldRes_ok {agg bound : Int} {l : List Rc} (hw : wayC agg bound = true) (hk : keysOk l = true) (hl : l.length ≤ 1536) : foldRes agg bound l = fin (foldR agg bound.toNat l) := by
  unfold foldRes
  rw [hw, hk, decide_eq_true hl]
  rfl
def bndOf (agg : Int) (n : Nat) (m : Int) : Int := if agg = 6 then 1 + (n : Int) % m else 0
theorem bnd_way {agg : Int} (n : Nat) (m : Int) (h1 : 1 ≤ agg) (h6 : agg ≤ 6) (hm : 1 ≤ m) (hm2 : m ≤ 32) : wayC agg (bndOf agg n m) = true := by
  have a1 := Int.emod_nonneg (n : Int) (show m ≠ 0 by omega)
  have a2 := Int.emod_lt_of_pos (n : Int) (show 0 < m by omega)
  unfold bndOf wayC
  by_cases h : agg = 6
  · rw [if_pos h, if_pos h]; exact decide_eq_true (by omega)
  · rw [if_neg h, if_neg h]; exact decide_eq_true (by omega)
end Go.Proofs.YtejgcflcckjlpaaGreatDoor
