/- Texts laid together: YtejgcflcckjlpaaGreatDoorBC33, YtejgcflcckjlpaaGreatDoorBC34. -/
import Derived.Test.YtejgcflcckjlpaaGreatDoorBC29
import Derived.Test.YtejgcflcckjlpaaGreatDoorBC30
import Derived.Test.YtejgcflcckjlpaaGreatDoorBC32
import Derived.Deep.RegionHeld3
import Derived.Laws.MakeOwn
import Derived.Laws.OwnMore
/- The output of rows: a frame each partition. No program in this text. -/
namespace Go.Proofs.YtejgcflcckjlpaaGreatDoor
open Go.RowKit
set_option linter.unusedVariables false
set_option maxRecDepth 100000

/-- What rows in partitions give. -/
def outB (agg : Int) : List (List Rw) → ByteArray
  | [] => ⟨#[]⟩
  | m :: L => frameOf (rowsBy agg m) ++ outB agg L
theorem outB_snoc (agg : Int) (L : List (List Rw)) (m : List Rw) : outB agg (L ++ [m]) = outB agg L ++ frameOf (rowsBy agg m) := by
  induction L with
  | nil => show frameOf (rowsBy agg m) ++ (⟨#[]⟩ : ByteArray) = (⟨#[]⟩ : ByteArray) ++ _; rw [nil_app, app_nil]
  | cons a L ih => show frameOf (rowsBy agg a) ++ outB agg (L ++ [m]) = (frameOf (rowsBy agg a) ++ outB agg L) ++ _; rw [ih, app_assoc]
theorem outB_app (agg : Int) (L M : List (List Rw)) : outB agg (L ++ M) = outB agg L ++ outB agg M := by
  induction L with
  | nil => show _ = (⟨#[]⟩ : ByteArray) ++ _; rw [nil_app]; rfl
  | cons a L ih => show frameOf (rowsBy agg a) ++ outB agg (L ++ M) = (frameOf (rowsBy agg a) ++ outB agg L) ++ _; rw [ih, app_assoc]
theorem outB_size (agg : Int) (L : List (List Rw)) (h : ∀ m ∈ L, (rowsBy agg m).size ≤ 800000) : (outB agg L).size ≤ 800008 * L.length := by
  induction L with
  | nil => show (0 : Nat) ≤ _; omega
  | cons a L ih =>
    have h1 := h a (by simp)
    have h2 := ih (fun m hm => h m (by simp [hm]))
    show (frameOf (rowsBy agg a) ++ outB agg L).size ≤ _
    rw [ByteArray.size_append, frame_size, List.length_cons]
    omega
/-- What Output tells of rows that may be. -/
def outRes (agg n : Int) (l : List Rw) : ByteArray × Int :=
  if (∀ m ∈ prt n l, (rowsBy agg m).size ≤ 32768) ∧ (outB agg (prt n l)).size ≤ 32704 then (outB agg (prt n l), 0) else (⟨#[]⟩, 2)
theorem outRes_part {agg n : Int} {l m : List Rw} (hm : m ∈ prt n l) (h : ¬ (rowsBy agg m).size ≤ 32768) : outRes agg n l = (⟨#[]⟩, 2) := by
  unfold outRes; rw [if_neg (fun e => h (e.1 m hm))]
theorem outRes_long {agg n : Int} {l : List Rw} (h : ¬ (outB agg (prt n l)).size ≤ 32704) : outRes agg n l = (⟨#[]⟩, 2) := by
  unfold outRes; rw [if_neg (fun e => h e.2)]
theorem outRes_ok {agg n : Int} {l : List Rw} (h1 : ∀ m ∈ prt n l, (rowsBy agg m).size ≤ 32768) (h2 : (outB agg (prt n l)).size ≤ 32704) : outRes agg n l = (outB agg (prt n l), 0) := by
  unfold outRes; rw [if_pos ⟨h1, h2⟩]
theorem outRes_zero {agg n : Int} {l : List Rw} (h : (outRes agg n l).2 = 0) : (∀ m ∈ prt n l, (rowsBy agg m).size ≤ 32768) ∧ (outB agg (prt n l)).size ≤ 32704 ∧ outRes agg n l = (outB agg (prt n l), 0) := by
  unfold outRes at h ⊢
  split at h
  · next h1 => exact ⟨h1.1, h1.2, if_pos h1⟩
  · cases h
theorem okRows_sub {agg bound : Int} {l m : List Rw} (hs : m.Sublist l) (h : okRows agg bound l = true) : okRows agg bound m = true := by
  obtain ⟨h1, h2, h3, h4⟩ := okRows_parts h
  have h5 := hs.length_le
  have h6 : RiseK m := h4.sublist hs
  unfold okRows
  rw [h1, decide_eq_true (show m.length ≤ 1536 by omega), decide_eq_true h6, List.all_eq_true.2 (fun r hr => by
    obtain ⟨q1, q2⟩ := h3 r (hs.subset hr)
    rw [decide_eq_true q1, q2]
    rfl)]
  rfl
theorem FineR.sub {agg bound : Int} {l m : List Rw} (h : FineR agg bound l) (hs : m.Sublist l) : FineR agg bound m :=
  ⟨okRows_sub hs h.ok, fun r hr => h.cell r (hs.subset hr), fun r hr => h.key r (hs.subset hr)⟩
theorem prt_sub {n : Int} {l m : List Rw} (h : m ∈ prt n l) : m.Sublist l := by
  obtain ⟨p, _, rfl⟩ := List.mem_map.1 (show m ∈ (List.range n.toNat).map (partR (ofP n) l) from h)
  exact List.filter_sublist
theorem prt_rows {n : Int} {l m : List Rw} (h : m ∈ prt n l) {agg bound : Int} (hf : FineR agg bound l) : (rowsBy agg m).size ≤ 800000 :=
  hf.sz (fun r hr => (prt_sub h).subset hr) (prt_sub h).length_le
end Go.Proofs.YtejgcflcckjlpaaGreatDoor
/- Texts laid together: WCopy, WJoin, WEq, WRuns, WWipe, PTRow. -/
/- Rows copied: CopyRows. -/
namespace Go.Proofs.YtejgcflcckjlpaaGreatDoor
open Go.RowKit
set_option linter.unusedVariables false
set_option maxRecDepth 100000
end Go.Proofs.YtejgcflcckjlpaaGreatDoor
/- row.Join of runs that may be. -/
namespace Go.Proofs.YtejgcflcckjlpaaGreatDoor
open Go.RowKit Go.Maps
set_option linter.unusedVariables false
set_option maxRecDepth 100000

/-- Runs of rows, and none longer than it may be. -/
def RunsC (w : World) (b off : Nat) (L : List (List Rw)) : Prop := ∀ (i : Nat) (l : List Rw), L[i]? = some l → ∃ u, w.cell? ⟨b, off + i, none⟩ = some u ∧ WS w u l ∧ CapOk u
def RnS (w : World) (v : Value) (L : List (List Rw)) : Prop := ∃ a cap, v = .slice a L.length cap ∧ (L = [] ∨ ∃ b off, a = some ⟨b, off, none⟩ ∧ b < w.heap.size ∧ RunsC w b off L)
theorem RunsC.below {w w' : World} {b off B : Nat} {L : List (List Rw)} (h : RunsC w b off L) (hb : Below w.heap.size w w') (hlt : b < w.heap.size) : RunsC w' b off L := fun i l hl => by
  obtain ⟨u, h1, h2, h3⟩ := h i l hl
  exact ⟨u, (hb.cell (p := ⟨b, _, none⟩) hlt).trans h1, h2.below hb, h3⟩
/-- What each run is. -/
structure RunOk (agg bound : Int) (l : List Rw) : Prop where
  ok : okRows agg bound l = true
  cell : ∀ r ∈ l, OkC agg bound r.2
  key : ∀ r ∈ l, Good r.1
theorem flat_snoc {L : List (List Rw)} {k : Nat} {r : List Rw} (hr : L[k]? = some r) : (L.take (k + 1)).flatten = (L.take k).flatten ++ r := by
  rw [List.take_add_one, hr]
  simp
theorem len_mono (J : Cl → Cl → Cl × Int) (a b : List Rw) : (gat J a).1.length ≤ (gat J (a ++ b)).1.length := by
  induction b using snoc_ind with
  | h0 => rw [List.append_nil]; exact Nat.le_refl _
  | h1 b r ih =>
    rw [← List.append_assoc, gat_snoc]
    unfold stepG
    simp only
    rw [len_putR (rise_gat J (a ++ b))]
    split <;> omega
theorem flat_take (L : List (List Rw)) (k : Nat) : ∃ m, L.flatten = (L.take k).flatten ++ m := ⟨(L.drop k).flatten, by rw [← List.flatten_append, List.take_append_drop]⟩
theorem flat_mem {L : List (List Rw)} {k : Nat} {x : Rw} (h : x ∈ (L.take k).flatten) : ∃ l ∈ L, x ∈ l := by
  obtain ⟨l, hl, hx⟩ := List.mem_flatten.1 h
  exact ⟨l, List.mem_of_mem_take hl, hx⟩
theorem Gat.len_run {w : World} {base gp mp n : Nat} {agg bound : Int} {st : List Rw} {bad : Int} (h : Gat w base gp mp agg bound st bad n) : ∃ D, w.ownsMap Tryz.prog 42 RC mp n D ∧ Maps.size D = st.length := by
  obtain ⟨D, h1, h2⟩ := h.mo
  exact ⟨D, h1, h2.size⟩
theorem gatOk {agg bound : Int} {L : List (List Rw)} (hL : ∀ l ∈ L, RunOk agg bound l) (m : List Rw) (hm : ∀ x ∈ m, ∃ l ∈ L, x ∈ l) : (∀ x c, look (gat (joinC agg bound.toNat) m).1 x = some c → OkC agg bound c) ∧ ∀ r ∈ (gat (joinC agg bound.toNat) m).1, Good r.1 := by
  refine ⟨okC_gat m fun r hr => ?_, fun r hr => ?_⟩
  · obtain ⟨l, hl, hx⟩ := hm r hr
    exact (hL l hl).cell r hx
  · have h1 := mem_look (rise_gat _ m) hr
    obtain ⟨y, hy, e⟩ := (keys_gat (joinC agg bound.toNat) m r.1).1 (by rw [h1]; rfl)
    obtain ⟨l, hl, hx⟩ := hm y hy
    rw [← e]
    exact (hL l hl).key y hx
set_option maxHeartbeats 2000000 in
theorem join_ok (agg bound : Int) (v : Value) (L : List (List Rw)) (w : World) (h : RnS w v L) (hw : wayC agg bound = true) (hL : ∀ l ∈ L, RunOk agg bound l) (hl : L.length ≤ 100) (hlen : (gat (joinC agg bound.toNat) L.flatten).1.length ≤ 1536) :
    Calls Tryz.prog 28 #[.int .i64 agg, .int .i64 bound, v] w (RowsR w w.heap.size (fin (gat (joinC agg bound.toNat) L.flatten))) := by
  have H1 := hidM (fun W => rway_any agg bound W)
  rw [hw] at H1
  have H3 := hidM (fun W (hW : w.heap.size ≤ W.heap.size) => newG_any agg bound w.heap.size W hW)
  obtain ⟨va, vc, rfl, hsh⟩ := h
  have HL := hidM hL
  have HLEN := hidM hlen
  clear hL hlen
  go_enter Tryz.func28, Tryz.ntmps28
  go_wp2_with (go_at_call 35; refine (H1.out _).mono ?_; rintro e W1 ⟨rfl, hb1⟩)
  go_wp2_with (go_at_call 46; refine (H3.out _ hb1.size).mono ?_; rintro e W3 ⟨rfl, hG3, hb3⟩)
  have hb3' := nxt hb1 hb3
  clear hb1 hb3
  generalize W1.heap.size + 1 = gp at hG3 ⊢
  generalize W1.heap.size = mp at hG3
  clear W1 H1 H3
  go_loopw [23] (fun i wr => ∃ k n : Nat, k ≤ L.length ∧ i = .int .i64 k ∧ n ≤ 1536 * k ∧ Gat wr w.heap.size gp mp agg bound (gat (joinC agg bound.toNat) (L.take k).flatten).1 (gat (joinC agg bound.toNat) (L.take k).flatten).2 n ∧ Below w.heap.size w wr) (fun i _ => L.length - (intOf i).toNat)
  case atStart => exact ⟨0, 0, by omega, rfl, by omega, hG3, hb3'⟩
  case round =>
    clear hG3 hb3'
    rename World => w0
    obtain ⟨k, n, hk, rfl, hn, hG, hbel⟩ := hrel
    have hsz := hbel.size
    by_cases hlt : k < L.length
    · obtain ⟨r, hr⟩ := getSome hlt
      rcases hsh with rfl | ⟨b, off, rfl, hb, hat⟩
      · simp at hlt
      have hro := HL.out r (List.mem_of_getElem? hr)
      obtain ⟨u, hu0, hws, hcap⟩ := hat k r hr
      have hu := (hbel.cell (p := ⟨b, off + k, none⟩) hb).trans hu0
      have hrl : r.length ≤ 1536 := (okRows_parts hro.ok).2.1
      have HC := hidM (rcheck_ok agg bound u r w0 (hws.below hbel) (fun x hx => by have := (hro.cell x hx).2.2; omega) hcap hro.ok)
      obtain ⟨ua, uc, rfl, hush⟩ := hws
      have hfs := flat_snoc hr
      have HBEL := hidM hbel
      have HG := hidM hG
      have HUS := hidM hush
      clear hat hbel hG hush hcap
      go_wp2_with (go_at_call 20; refine HC.out.mono ?_; rintro e W1 ⟨rfl, hb1⟩)
      go_loopw [36] (fun i wr => ∃ q : Nat, q ≤ r.length ∧ i = .int .i64 q ∧ Gat wr w.heap.size gp mp agg bound (gat (joinC agg bound.toNat) ((L.take k).flatten ++ r.take q)).1 (gat (joinC agg bound.toNat) ((L.take k).flatten ++ r.take q)).2 (n + q) ∧ Below w.heap.size w wr) (fun i _ => r.length - (intOf i).toNat)
      case atStart => exact ⟨0, by omega, rfl, by rw [List.take_zero, List.append_nil]; exact HG.out.below hb1, nxt HBEL.out hb1⟩
      case round =>
        clear hb1
        rename World => w2
        obtain ⟨q, hq, rfl, hG, hbel⟩ := hrel
        have hsz2 := hbel.size
        by_cases hql : q < r.length
        · obtain ⟨⟨⟨ya, yb⟩, yn, yl⟩, hy⟩ := getSome hql
          have hym := List.mem_of_getElem? hy
          have hoc := hro.cell _ hym
          have hgo := hro.key _ hym
          rcases HUS.out with rfl | ⟨b2, off2, rfl, hb2, hat2⟩
          · simp at hql
          obtain ⟨c0, c1, c2, s1, p1, c3, n1⟩ := (hat2.below hbel hb2) q _ hy
          simp only at c0 c1 c2 c3 n1 hoc hgo
          have hstep : r.take (q + 1) = r.take q ++ [((ya, yb), (yn, yl))] := by rw [List.take_add_one, hy]; rfl
          obtain ⟨Wa, hWa⟩ : ∃ Wa : World, Wa = w2.alloc (.cells #[.int .i64 ya, .string yb, .int .i64 yn, .slice s1 yl.length p1] 47) := ⟨_, rfl⟩
          have hba : Below w2.heap.size w2 Wa := by rw [hWa]; exact (Below.refl _ _).alloc (Nat.le_refl _) _
          have B4 : Blk4 Wa w2.heap.size (.int .i64 ya) (.string yb) (.int .i64 yn) (.slice s1 yl.length p1) := by rw [hWa]; exact Blk4.new w2 _ _ _ _
          obtain ⟨a0, a1, a2, a3, -⟩ := B4.cells
          have HA := hidM hWa.symm
          obtain ⟨gk1, gk2⟩ := gatOk HL.out ((L.take k).flatten ++ r.take q) (fun x hx => by
            rcases List.mem_append.1 hx with hx | hx
            · exact flat_mem hx
            · exact ⟨r, List.mem_of_getElem? hr, List.mem_of_mem_take hx⟩)
          have HAD := hidM (add_any gp mp w.heap.size (n + q) agg bound _ ((ya, yb), (yn, yl)) _ Wa (hG.below hba) (Nat.le_trans hsz2 hba.size) (by omega) hgo ⟨s1, p1, rfl, n1.below hba⟩ hoc.2.2 (rise_gat _ _) hoc.1 hoc.2.1 gk1)
          rw [← gat_snoc, List.append_assoc, ← hstep] at HAD
          have HBW := hidM (hbel.trans (hba.mono hsz2))
          clear hWa hba B4 hG hbel hat2 n1 gk1 gk2 hoc hgo hstep hy hym
          go_wp2_with (go_at_call 47; rw [HA.out]; refine HAD.out.mono ?_; rintro e W7 ⟨rfl, hG7, hb7⟩)
          go_roundw
          case rel => exact ⟨q + 1, by omega, by go_num, hG7, HBW.out.trans hb7⟩
          case measure => simp [intOf]; omega
        · have hql' : r.length ≤ q := by omega
          rw [List.take_of_length_le hql', ← hfs] at hG
          obtain ⟨D, hom, hDs⟩ := hG.len_run
          have hle : (gat (joinC agg bound.toNat) (L.take (k + 1)).flatten).1.length ≤ 1536 := by
            obtain ⟨m, hm⟩ := flat_take L (k + 1)
            have := len_mono (joinC agg bound.toNat) (L.take (k + 1)).flatten m
            rw [← hm] at this
            have := HLEN.out
            omega
          obtain ⟨z, hz⟩ : ∃ z, z = (gat (joinC agg bound.toNat) (L.take (k + 1)).flatten).1.length := ⟨_, rfl⟩
          rw [← hz] at hDs hle
          have hzi : ¬ ((1536 : Int) < (z : Int)) := by omega
          obtain ⟨x0, x1, x2, x3, x4⟩ := hG.cells
          have HG2 := hidM hG
          have HB2 := hidM hbel
          have HOM := hidM hom
          have HDS := hidM hDs
          clear hG hbel hom hDs hz
          go_wp2_with (at_len; refine wpList_len_own _ rfl _ 94 rfl 42 45 Tryz.underlying94 RC mp _ D rfl HOM.out ?_; rw [HDS.out])
          go_roundw
          case rel => exact ⟨k + 1, n + q, by omega, by go_num, by omega, HG2.out, HB2.out⟩
          case measure => simp [intOf]; omega
    · have hlt' : L.length ≤ k := by omega
      rw [List.take_of_length_le hlt'] at hG
      obtain ⟨gk1, gk2⟩ := gatOk HL.out L.flatten (fun x hx => List.mem_flatten.1 hx)
      have HR := hidM (rows_any gp mp w.heap.size n agg bound _ w0 hG hsz (rise_gat _ _) gk2 (by have := HLEN.out; omega))
      have HBEL := hidM hbel
      clear hG hbel gk1 gk2
      go_wp2_with (go_at_call 48; refine HR.out.mono ?_; rintro e w' ⟨⟨v', rfl, ho⟩, hb'⟩)
      go_ret2
      exact ⟨⟨_, rfl, ho⟩, HBEL.out.trans hb'⟩
end Go.Proofs.YtejgcflcckjlpaaGreatDoor
/- Rows compared. -/
namespace Go.Proofs.YtejgcflcckjlpaaGreatDoor
open Go.RowKit
set_option linter.unusedVariables false
set_option maxRecDepth 100000

theorem eqrow_any (k : Ky) (n : Int) (l : List Int) (a a' : Option Addr) (cap cap' : Nat) (w : World) (h : NS w (.slice a l.length cap) l) (h' : NS w (.slice a' l.length cap') l) (hl : l.length ≤ 100000) :
    Calls Tryz.prog 31 #[.agg #[.int .i64 k.1, .string k.2, .int .i64 n, .slice a l.length cap], .agg #[.int .i64 k.1, .string k.2, .int .i64 n, .slice a' l.length cap']] w (BoolR w true) := by
  obtain ⟨ka, kb⟩ := k
  have hb : Below w.heap.size w ((w.alloc (.cells #[.int .i64 ka, .string kb, .int .i64 n, .slice a l.length cap] 47)).alloc (.cells #[.int .i64 ka, .string kb, .int .i64 n, .slice a' l.length cap'] 47)) := ((Below.refl _ _).alloc (Nat.le_refl _) _).alloc (by simp) _
  have H := hidM (eqcell_any _ _ (n, l) _ ⟨a, cap, rfl, h.below hb⟩ ⟨a', cap', rfl, h'.below hb⟩ hl)
  have HB := hidM hb
  have he := fun W => eqK ka ka kb kb W
  rw [eqB_self] at he
  have hg := fun op p q xs ys W => guardK op p q xs ys W
  simp only
  go_enter Tryz.func31, Tryz.ntmps31
  go_wp2_with (go_at_call 49; refine H.out.mono ?_; rintro e W2 ⟨rfl, hb2⟩)
  go_ret
  exact ⟨rfl, nxt HB.out hb2⟩
set_option maxHeartbeats 1000000 in
theorem eqrows_any (v u : Value) (l : List Rw) (w : World) (h : WS w v l) (h' : WS w u l) (hl : l.length ≤ 100000) (hls : ∀ r ∈ l, r.2.2.length ≤ 100000) :
    Calls Tryz.prog 11 #[v, u] w (BoolR w true) := by
  rcases h.shape with ⟨a, cap, rfl, rfl⟩ | ⟨b, off, cap, rfl, hb, hat⟩
  · obtain ⟨a', cap', rfl, -⟩ := h'
    go_enter Tryz.func11, Tryz.ntmps11
    go_wp2
    go_loop [5] (fun i => i = .int .i64 0) (fun _ => 0)
    case atStart => rfl
    case round =>
      subst hrel
      go_wp2
      go_ret
      exact ⟨rfl, Below.refl _ _⟩
  · obtain ⟨a', cap', rfl, hsh⟩ := h'
    go_enter Tryz.func11, Tryz.ntmps11
    go_wp2
    go_loopw [5] (fun i wr => ∃ k : Nat, k ≤ l.length ∧ i = .int .i64 k ∧ Below w.heap.size w wr) (fun i _ => l.length - (intOf i).toNat)
    case atStart => exact ⟨0, by omega, rfl, Below.refl _ _⟩
    case round =>
      rename World => w0
      obtain ⟨k, hk, rfl, hbel⟩ := hrel
      have hsz := hbel.size
      by_cases hlt : k < l.length
      · obtain ⟨⟨⟨ya, yb⟩, yn, yl⟩, hy⟩ := getSome hlt
        rcases hsh with rfl | ⟨b', off', rfl, hb', hat'⟩
        · simp at hlt
        have hyl : yl.length ≤ 100000 := hls _ (List.mem_of_getElem? hy)
        obtain ⟨c0, c1, c2, s1, p1, c3, n1⟩ := (hat.below hbel hb) k _ hy
        obtain ⟨d0, d1, d2, s2, p2, d3, n2⟩ := (hat'.below hbel hb') k _ hy
        simp only at c0 c1 c2 c3 n1 d0 d1 d2 d3 n2
        have H := hidM (fun W (hW : Below w0.heap.size w0 W) => eqrow_any (ya, yb) yn yl s1 s2 p1 p2 W (n1.below hW) (n2.below hW) hyl)
        have HS := hidM (show ∀ W, Below w0.heap.size w0 W → W.cell? ⟨b, off + k * 4, none⟩ = some (.int .i64 ya) ∧ W.cell? ⟨b, off + k * 4 + 1, none⟩ = some (.string yb) ∧ W.cell? ⟨b, off + k * 4 + 2, none⟩ = some (.int .i64 yn) ∧ W.cell? ⟨b, off + k * 4 + 3, none⟩ = some (.slice s1 yl.length p1) ∧ W.cell? ⟨b', off' + k * 4, none⟩ = some (.int .i64 ya) ∧ W.cell? ⟨b', off' + k * 4 + 1, none⟩ = some (.string yb) ∧ W.cell? ⟨b', off' + k * 4 + 2, none⟩ = some (.int .i64 yn) ∧ W.cell? ⟨b', off' + k * 4 + 3, none⟩ = some (.slice s2 yl.length p2) ∧ Below w0.heap.size w0 W from fun W hW => by
          have hl1 : b < w0.heap.size := by omega
          have hl2 : b' < w0.heap.size := by omega
          exact ⟨(hW.cell (p := ⟨b, _, none⟩) hl1).trans c0, (hW.cell (p := ⟨b, _, none⟩) hl1).trans c1, (hW.cell (p := ⟨b, _, none⟩) hl1).trans c2, (hW.cell (p := ⟨b, _, none⟩) hl1).trans c3, (hW.cell (p := ⟨b', _, none⟩) hl2).trans d0, (hW.cell (p := ⟨b', _, none⟩) hl2).trans d1, (hW.cell (p := ⟨b', _, none⟩) hl2).trans d2, (hW.cell (p := ⟨b', _, none⟩) hl2).trans d3, hW⟩)
        clear hat hat' n1 n2
        have HBEL := hidM hbel
        go_wp2_with fail
        go_region_held3 (fun W => W.cell? ⟨b, off + k * 4, none⟩ = some (.int .i64 ya) ∧ W.cell? ⟨b, off + k * 4 + 1, none⟩ = some (.string yb) ∧ W.cell? ⟨b, off + k * 4 + 2, none⟩ = some (.int .i64 yn) ∧ W.cell? ⟨b, off + k * 4 + 3, none⟩ = some (.slice s1 yl.length p1) ∧ W.cell? ⟨b', off' + k * 4, none⟩ = some (.int .i64 ya) ∧ W.cell? ⟨b', off' + k * 4 + 1, none⟩ = some (.string yb) ∧ W.cell? ⟨b', off' + k * 4 + 2, none⟩ = some (.int .i64 yn) ∧ W.cell? ⟨b', off' + k * 4 + 3, none⟩ = some (.slice s2 yl.length p2) ∧ Below w0.heap.size w0 W)
          (first | exact HS.out _ (Below.refl _ _).drew | exact HS.out _ (nxt ((Below.refl _ _).drew) hb2))
          (first | (go_at_call 31; refine (H.out _ ((Below.refl _ _).drew)).mono ?_; rintro e W2 ⟨rfl, hb2⟩))
        go_wp2
        go_roundw
        case rel => exact ⟨k + 1, by omega, by go_num, (HBEL.out.trans ((nxt ((Below.refl w0.heap.size w0).drew) hb2).mono hsz))⟩
        case measure => simp [intOf]; omega
      · go_wp2
        go_ret
        exact ⟨rfl, hbel⟩
end Go.Proofs.YtejgcflcckjlpaaGreatDoor
/- Runs of rows: copied, compared. -/
namespace Go.Proofs.YtejgcflcckjlpaaGreatDoor
open Go.RowKit
set_option linter.unusedVariables false
set_option maxRecDepth 100000

theorem Tryz.infoRows : (Tryz.prog.info? 29).map (fun i => (i.zero, i.size, i.bytes)) = some (some (.slice none 0 0), 1, 24) := by kernel_rfl
/-- All rows of elements of type T stay. -/
def KeepT (T : TypeId) (w w' : World) : Prop := ∀ (g : Nat) (cur : Array Value), w.heap[g]? = some (.cells cur T (0, 0)) → w'.heap[g]? = some (.cells cur T (0, 0))
theorem KeepT.row {T T' : TypeId} (hT : T ≠ T') {W W' : World} {base sz n : Nat} {v : Value} {xs : List Value} (h : W.ownsRow base T' sz v n xs) (hg : W.grownBy W' v.ownBlock) : KeepT T W W' := fun g cur hh => by
  refine (hg.block g (Array.getElem?_eq_some_iff.1 hh).1 (fun e => ?_)).trans hh
  rcases h.2 with ⟨rfl, _⟩ | ⟨g', cap, cur', rfl, _, hb, _⟩
  · simp [Value.ownBlock] at e
  · have : g' = g := by simpa [Value.ownBlock] using e.symm
    subst this
    rw [hb] at hh
    injection hh with hh
    injection hh with _ hh
    exact hT hh.symm
theorem KeepT.below {T : TypeId} {w w' : World} (h : Below w.heap.size w w') : KeepT T w w' := fun g cur hg => by rw [h.block g (Array.getElem?_eq_some_iff.1 hg).1]; exact hg
theorem OwnX.keepT {w w' : World} {base : Nat} {v : Value} {xs : List Raw} (h : OwnX w base v xs) (k : KeepT 47 w w') : OwnX w' base v xs := by
  refine ⟨h.1, ?_⟩
  rcases h.2 with ⟨h1, h2⟩ | ⟨g, cap, cur, h1, h2, h3, h4⟩
  · exact .inl ⟨h1, h2⟩
  · exact .inr ⟨g, cap, cur, h1, h2, k g cur h3, h4⟩
theorem OwnW.keepT {w w' : World} {base : Nat} {v : Value} {l : List Rw} (h : OwnW w base v l) (hs : w.heap.size ≤ w'.heap.size) (k : KeepT 47 w w') (k2 : KeepT 2 w w') : OwnW w' base v l := by
  obtain ⟨xs, h1, h2⟩ := h
  exact ⟨xs, h1.keepT k, h2.keep ⟨hs, k2⟩⟩
/-- v owns the runs L: they, their rows and their sets lie from base on. -/
def OwnRs (w : World) (base : Nat) (v : Value) (L : List (List Rw)) : Prop := ∃ vs, w.ownsRow base 29 1 v vs.length vs ∧ vs.length = L.length ∧ ∀ (i : Nat) (u : Value) (l : List Rw), vs[i]? = some u → L[i]? = some l → OwnW w base u l
theorem OwnRs.nil (w : World) (base : Nat) : OwnRs w base (.slice none 0 0) [] := ⟨[], World.ownsRow_nil _ _ _ _, rfl, fun i u l h => by simp at h⟩
theorem ownsRow_below {w w' : World} {base n sz : Nat} {T : TypeId} {v : Value} {xs : List Value} (h : w.ownsRow base T sz v n xs) (hb : Below w.heap.size w w') : w'.ownsRow base T sz v n xs := by
  refine ⟨h.1, ?_⟩
  rcases h.2 with ⟨h1, h2⟩ | ⟨g, cap, cur, h1, h2, h3, h4⟩
  · exact .inl ⟨h1, h2⟩
  · exact .inr ⟨g, cap, cur, h1, h2, by rw [hb.block g (Array.getElem?_eq_some_iff.1 h3).1]; exact h3, h4⟩
theorem OwnRs.below {w w' : World} {base : Nat} {v : Value} {L : List (List Rw)} (h : OwnRs w base v L) (hb : Below w.heap.size w w') : OwnRs w' base v L := by
  obtain ⟨vs, h1, h2, h3⟩ := h
  exact ⟨vs, ownsRow_below h1 hb, h2, fun i u l hu hl => (h3 i u l hu hl).below hb⟩
theorem OwnW.slice {w : World} {base : Nat} {v : Value} {l : List Rw} (h : OwnW w base v l) : ∃ a c, v = .slice a l.length c := by
  obtain ⟨a, c, e, -⟩ := h.ws
  exact ⟨a, c, e⟩
/-- What the call owns may be read. -/
theorem OwnRs.rns {w : World} {base : Nat} {v : Value} {L : List (List Rw)} (h : OwnRs w base v L) : RnS w v L := by
  obtain ⟨vs, hx, hl, ha⟩ := h
  rcases hx.2 with ⟨rfl, h0⟩ | ⟨g, cap, cur, rfl, _, hb, _, _, _, ht⟩
  · have : vs = [] := List.length_eq_zero_iff.1 h0
    subst this
    have : L = [] := List.length_eq_zero_iff.1 hl.symm
    subst this
    exact ⟨none, 0, rfl, .inl rfl⟩
  · refine ⟨_, cap, by rw [hl], .inr ⟨g, 0, rfl, (Array.getElem?_eq_some_iff.1 hb).1, fun i l hi => ?_⟩⟩
    have hil : i < L.length := (List.getElem?_eq_some_iff.1 hi).1
    obtain ⟨u, hu⟩ := getSome (l := vs) (i := i) (by rw [hl]; exact hil)
    have ho := ha i u l hu hi
    refine ⟨u, ?_, ho.ws, ho.cap⟩
    have h0 := hu
    rw [← ht, List.getElem?_take_of_lt (by omega)] at h0
    rw [Nat.zero_add]
    simp only [World.cell?, hb]
    simpa using h0
/-- One run more. -/
theorem OwnRs.app {W : World} {base b : Nat} {v u : Value} {L : List (List Rw)} {l : List Rw} (ty : TypeId) (h : OwnRs W base v L) (hu : OwnW W base u l) (hc : W.cell? ⟨b, 0, none⟩ = some u) (hl : L.length ≤ 100000) (hb : base ≤ W.heap.size) :
    ∃ v' W', (Builtin.append_ #[22, 22] ty #[v, .slice (some ⟨b, 0, none⟩) 1 1]).run Tryz.prog W = .ok v' W' ∧ OwnRs W' base v' (L ++ [l]) ∧ W.grownBy W' v.ownBlock ∧ ∀ k, v.ownBlock = some k → base ≤ k := by
  obtain ⟨i0, hi, hz0, hz1, hz2⟩ := info_parts Tryz.infoRows
  obtain ⟨vs, h1, h2, h3⟩ := h
  obtain ⟨ua, uc, rfl⟩ := hu.slice
  obtain ⟨v', w', hr, q2, q3, _, q5⟩ := run_append_own_at (P := Tryz.prog) W base 22 ty 29 i0 _ 1 24 Tryz.underlying22 hi hz0 hz1 hz2 rfl (by decide) v vs.length vs h1 ⟨b, 0, none⟩ 1 1 [.slice ua l.length uc] rfl (fun j u hj => by
    match j, hj with
    | 0, hj => simp at hj; subst hj; rw [Addr.add_lit]; exact hc) (fun u hu => by simp at hu; subst hu; rfl) (by unfold maxLen; omega) (by omega) hb
  have k1 : KeepT 47 W w' := KeepT.row (by decide) h1 q3
  have k2 : KeepT 2 W w' := KeepT.row (by decide) h1 q3
  refine ⟨v', w', hr, ⟨vs ++ [.slice ua l.length uc], by rw [List.length_append]; exact q2, by simp [h2], fun i u l' hu' hl' => ?_⟩, q3, own_row h1⟩
  by_cases hi' : i < vs.length
  · rw [List.getElem?_append_left hi'] at hu'
    rw [List.getElem?_append_left (h2 ▸ hi')] at hl'
    exact (h3 i u l' hu' hl').keepT q3.size k1 k2
  · rw [List.getElem?_append_right (by omega)] at hu'
    rw [List.getElem?_append_right (by omega)] at hl'
    have e : i - vs.length = 0 := by
      have := (List.getElem?_eq_some_iff.1 hu').1
      simp at this
      omega
    rw [e] at hu'
    rw [← h2, e] at hl'
    simp at hu' hl'
    subst hu' hl'
    exact hu.keepT q3.size k1 k2
end Go.Proofs.YtejgcflcckjlpaaGreatDoor
/- Rows of one's own, written over: thresherlaw0.Rows. -/
namespace Go.Proofs.YtejgcflcckjlpaaGreatDoor
open Go.RowKit
set_option linter.unusedVariables false

/-- A set's slice: empty, or a row of numbers of the call's own. -/
def SetOk (w : World) (base : Nat) (s : Sl) : Prop := s.2.1 = 0 ∨ ∃ (g : Nat) (cur : Array Value), s.1 = some ⟨g, 0, none⟩ ∧ base ≤ g ∧ w.heap[g]? = some (.cells cur 2 (0, 0)) ∧ s.2.1 ≤ cur.size
theorem SetOk.own {w : World} {base : Nat} {s : Sl} {l : List Int} (h : OwnL w base (slV s) l) : SetOk w base s := by
  obtain ⟨sa, sn, sc⟩ := s
  rcases h.2 with ⟨h1, h2⟩ | ⟨g, cap, cur, h1, hg, hb, hn, hm, hs, ht⟩
  · injection h1 with e1 e2 e3
    exact .inl e2
  · injection h1 with e1 e2 e3
    subst e1 e2
    exact .inr ⟨g, cur, rfl, hg, hb, by simp only; omega⟩
theorem SetOk.keep {w w' : World} {base : Nat} {s : Sl} (h : SetOk w base s) (k : KeepT 2 w w') : SetOk w' base s := by
  rcases h with h | ⟨g, cur, h1, h2, h3, h4⟩
  · exact .inl h
  · exact .inr ⟨g, cur, h1, h2, k g cur h3, h4⟩
theorem SetOk.set {w : World} {base g o : Nat} {cur : Array Value} {s : Sl} {u : Value} (h : SetOk w base s) (hb : w.heap[g]? = some (.cells cur 2 (0, 0))) : SetOk (w.setCell ⟨g, o, none⟩ u) base s := by
  rcases h with h | ⟨g', cur', h1, h2, h3, h4⟩
  · exact .inl h
  · by_cases e : g' = g
    · subst e
      rw [hb] at h3
      injection h3 with h3
      injection h3 with h3
      subst h3
      exact .inr ⟨g', cur.setIfInBounds o u, h1, h2, by simp [World.setCell, Array.getElem?_modify, hb], by simpa using h4⟩
    · refine .inr ⟨g', cur', h1, h2, ?_, h4⟩
      rw [Below.heap_setCell _ _ _ _ e]
      exact h3
theorem keepT_set {T T' : TypeId} (hT : T ≠ T') {w : World} {g o : Nat} {cur : Array Value} {u : Value} (hb : w.heap[g]? = some (.cells cur T' (0, 0))) : KeepT T w (w.setCell ⟨g, o, none⟩ u) := fun g' cur' h => by
  have e : g' ≠ g := fun e => by
    subst e
    rw [hb] at h
    injection h with h
    injection h with _ h
    exact hT h.symm
  rw [Below.heap_setCell _ _ _ _ e]
  exact h
theorem set_type {w : World} {g o : Nat} {cur : Array Value} {T : TypeId} {u : Value} (hb : w.heap[g]? = some (.cells cur T (0, 0))) : (w.setCell ⟨g, o, none⟩ u).heap[g]? = some (.cells (cur.setIfInBounds o u) T (0, 0)) := by
  simp [World.setCell, Array.getElem?_modify, hb]
/-- Nothing below a place has been written. -/
theorem bel_set {w W : World} {B b o : Nat} (h : Below B w W) (hb : B ≤ b) (u : Value) : Below B w (W.setCell ⟨b, o, none⟩ u) := by
  refine ⟨h.os, h.tape, h.output, by simp [World.setCell]; exact h.size, fun k hk => ?_⟩
  rw [Below.heap_setCell _ _ _ _ (by show k ≠ b; omega)]
  exact h.block k hk
/-- A row that holds nothing. -/
abbrev noRaw : Raw := ((0, ⟨#[]⟩), 0, (none, 0, 0))
theorem flatW_none (xs : List Raw) (p : Nat) (x : Raw) (hx : xs[p]? = some x) : flatW (xs.set p noRaw) = ((((flatW xs).set (p * 4) (.int .i64 0)).set (p * 4 + 1) (.string ⟨#[]⟩)).set (p * 4 + 2) (.int .i64 0)).set (p * 4 + 3) (.slice none 0 0) := by
  induction xs generalizing p with
  | nil => simp at hx
  | cons a l ih =>
    cases p with
    | zero => rfl
    | succ p =>
      have hx' : l[p]? = some x := by simpa using hx
      rw [List.set_cons_succ]
      show encW a ++ flatW (l.set p noRaw) = (((((encW a ++ flatW l).set ((p + 1) * 4) (.int .i64 0)).set ((p + 1) * 4 + 1) (.string ⟨#[]⟩)).set ((p + 1) * 4 + 2) (.int .i64 0)).set ((p + 1) * 4 + 3) (.slice none 0 0))
      rw [ih p hx']
      have e0 : (p + 1) * 4 = (encW a).length + (p * 4) := by simp [encW]; omega
      have e1 : (p + 1) * 4 + 1 = (encW a).length + (p * 4 + 1) := by simp [encW]; omega
      have e2 : (p + 1) * 4 + 2 = (encW a).length + (p * 4 + 2) := by simp [encW]; omega
      have e3 : (p + 1) * 4 + 3 = (encW a).length + (p * 4 + 3) := by simp [encW]; omega
      rw [e1, e2, e3, e0, List.set_append_right _ _ (by omega), List.set_append_right _ _ (by omega), List.set_append_right _ _ (by omega), List.set_append_right _ _ (by omega)]
      simp
/-- What lies there while it is written over. -/
structure Wip (w : World) (base : Nat) (g n cap : Nat) (xs : List Raw) : Prop where
  own : OwnX w base (.slice (some ⟨g, 0, none⟩) n cap) xs
  sets : ∀ x ∈ xs, SetOk w base x.2.2
theorem Wip.block {w : World} {base g n cap : Nat} {xs : List Raw} (h : Wip w base g n cap xs) : base ≤ g ∧ n = xs.length ∧ ∃ cur : Array Value, w.heap[g]? = some (.cells cur 47 (0, 0)) ∧ xs.length * 4 ≤ cur.size ∧ cur.toList.take (xs.length * 4) = flatW xs := by
  rcases h.own.2 with ⟨h1, _⟩ | ⟨g', cap', cur, h1, hg, hb, hn, hm, hs, ht⟩
  · cases h1
  · injection h1 with e1 e2 e3
    injection e1 with e1
    injection e1 with e1
    subst e1 e2 e3
    exact ⟨hg, rfl, cur, hb, by omega, ht⟩
theorem Wip.cells {w : World} {base g n cap p : Nat} {xs : List Raw} {x : Raw} (h : Wip w base g n cap xs) (hx : xs[p]? = some x) :
    w.cell? ⟨g, p * 4, none⟩ = some (.int .i64 x.1.1) ∧ w.cell? ⟨g, p * 4 + 1, none⟩ = some (.string x.1.2) ∧ w.cell? ⟨g, p * 4 + 2, none⟩ = some (.int .i64 x.2.1) ∧ w.cell? ⟨g, p * 4 + 3, none⟩ = some (slV x.2.2) ∧ ∀ q, w.frozen? ⟨g, q, none⟩ = false := by
  obtain ⟨-, -, cur, hb, -, -⟩ := h.block
  obtain ⟨q0, q1, q2, q3⟩ := flatW_get xs p x hx
  obtain ⟨-, -, -, hc⟩ := h.own.cell
  exact ⟨hc _ _ q0, hc _ _ q1, hc _ _ q2, hc _ _ q3, fun q => by simp [World.frozen?, hb]⟩
theorem Wip.num {w : World} {base g n cap g2 j : Nat} {xs : List Raw} {u : Value} {cur : Array Value} (h : Wip w base g n cap xs) (hb : w.heap[g2]? = some (.cells cur 2 (0, 0))) : Wip (w.setCell ⟨g2, j, none⟩ u) base g n cap xs :=
  ⟨h.own.keepT (keepT_set (by decide) hb), fun x hx => (h.sets x hx).set hb⟩
theorem Wip.row {w : World} {base g n cap p : Nat} {xs : List Raw} {x : Raw} (h : Wip w base g n cap xs) (hx : xs[p]? = some x) :
    Wip ((((w.setCell ⟨g, p * 4, none⟩ (.int .i64 0)).setCell ⟨g, p * 4 + 1, none⟩ (.string ⟨#[]⟩)).setCell ⟨g, p * 4 + 2, none⟩ (.int .i64 0)).setCell ⟨g, p * 4 + 3, none⟩ (.slice none 0 0)) base g n cap (xs.set p noRaw) := by
  obtain ⟨hg, hn, cur, hb, hs, ht⟩ := h.block
  have b1 := set_type (o := p * 4) (u := .int .i64 0) hb
  have b2 := set_type (o := p * 4 + 1) (u := .string ⟨#[]⟩) b1
  have b3 := set_type (o := p * 4 + 2) (u := .int .i64 0) b2
  have b4 := set_type (o := p * 4 + 3) (u := .slice none 0 0) b3
  refine ⟨?_, fun y hy => ?_⟩
  · rcases h.own.2 with ⟨h1, _⟩ | ⟨g', cap', cur', h1, hg', hb', hn', hm', hs', ht'⟩
    · cases h1
    · injection h1 with e1 e2 e3
      injection e1 with e1
      injection e1 with e1
      subst e1 e2 e3
      rw [hb] at hb'
      injection hb' with hb'
      injection hb' with hb'
      subst hb'
      refine ⟨by rw [flatW_len], .inr ⟨g, cap, _, by rw [List.length_set], hg, b4, by rw [List.length_set]; exact hn', hm', by simp [hs'], ?_⟩⟩
      rw [List.length_set, flatW_none xs p x hx, ← ht]
      simp only [Array.toList_setIfInBounds]
      rw [List.take_set, List.take_set, List.take_set, List.take_set]
  · rcases List.mem_or_eq_of_mem_set hy with hy | rfl
    · exact ((((h.sets y hy).keep (keepT_set (by decide) hb)).keep (keepT_set (by decide) b1)).keep (keepT_set (by decide) b2)).keep (keepT_set (by decide) b3)
    · exact .inl rfl
end Go.Proofs.YtejgcflcckjlpaaGreatDoor
namespace Go.Proofs.YtejgcflcckjlpaaGreatDoor
open Go.RowKit
set_option linter.unusedVariables false
set_option maxRecDepth 100000
end Go.Proofs.YtejgcflcckjlpaaGreatDoor
/- Runs of one's own, each in a block of its own. -/
namespace Go.Proofs.YtejgcflcckjlpaaGreatDoor
open Go.RowKit
set_option linter.unusedVariables false
set_option maxRecDepth 100000

theorem OwnX.other {w w' : World} {base : Nat} {v : Value} {xs : List Raw} (h : OwnX w base v xs) {o : Option Nat} (hg : w.grownBy w' o) (hne : ∀ k, v.ownBlock = some k → o ≠ some k) : OwnX w' base v xs := by
  refine ⟨h.1, ?_⟩
  rcases h.2 with ⟨h1, h2⟩ | ⟨g, cap, cur, h1, h2, h3, h4⟩
  · exact .inl ⟨h1, h2⟩
  · refine .inr ⟨g, cap, cur, h1, h2, ?_, h4⟩
    rw [hg.block g (Array.getElem?_eq_some_iff.1 h3).1 (fun e => hne g (by rw [h1]; rfl) e.symm)]
    exact h3
theorem OwnX.blk {w : World} {base : Nat} {v : Value} {xs : List Raw} (h : OwnX w base v xs) {k : Nat} (hk : v.ownBlock = some k) : k < w.heap.size := by
  rcases h.2 with ⟨h1, h2⟩ | ⟨g, cap, cur, h1, h2, h3, h4⟩
  · rw [h1] at hk; cases hk
  · rw [h1] at hk
    injection hk with hk
    have : g = k := hk
    subst this
    exact (Array.getElem?_eq_some_iff.1 h3).1
abbrev runsV (g n : Nat) : Value := .slice (some ⟨g, 0, none⟩) n n
/-- At g lie n runs, L: each of one's own, each in a block of its own. -/
def OwnP (w : World) (base g n : Nat) (L : List (List Rw)) : Prop :=
  ∃ vs : List Value, w.ownsRow base 29 1 (runsV g n) n vs ∧ n = L.length ∧ (∀ (i : Nat) (u : Value) (l : List Rw), vs[i]? = some u → L[i]? = some l → OwnW w base u l) ∧
    ∀ (i j : Nat) (u u' : Value) (k : Nat), i ≠ j → vs[i]? = some u → vs[j]? = some u' → u.ownBlock = some k → u'.ownBlock ≠ some k
theorem OwnP.runs {w : World} {base g n : Nat} {L : List (List Rw)} (h : OwnP w base g n L) : OwnRs w base (runsV g n) L := by
  obtain ⟨vs, h1, h2, h3, h4⟩ := h
  have hl : vs.length = n := by simpa using h1.1
  exact ⟨vs, by rw [hl]; exact h1, by omega, h3⟩
theorem OwnP.below {w w' : World} {base g n : Nat} {L : List (List Rw)} (h : OwnP w base g n L) (hb : Below w.heap.size w w') : OwnP w' base g n L := by
  obtain ⟨vs, h1, h2, h3, h4⟩ := h
  exact ⟨vs, ownsRow_below h1 hb, h2, fun i u l hu hl => (h3 i u l hu hl).below hb, h4⟩
theorem OwnP.lt {w : World} {base g n : Nat} {L : List (List Rw)} (h : OwnP w base g n L) : base ≤ g ∧ g < w.heap.size := by
  obtain ⟨vs, h1, -⟩ := h
  rcases h1.2 with ⟨e, _⟩ | ⟨g', cap, cur, e, hb, hg, _⟩
  · cases e
  · injection e with e1 e2 e3
    injection e1 with e1
    injection e1 with e1
    subst e1
    exact ⟨hb, (Array.getElem?_eq_some_iff.1 hg).1⟩
/-- What lies at p. -/
theorem OwnP.at {w : World} {base g n p : Nat} {L : List (List Rw)} (h : OwnP w base g n L) (hp : p < n) : ∃ a m c, w.cell? ⟨g, p, none⟩ = some (.slice a m c) ∧ w.frozen? ⟨g, p, none⟩ = false := by
  obtain ⟨vs, h1, h2, h3, h4⟩ := h
  have hl : vs.length = n := by simpa using h1.1
  obtain ⟨u, hu⟩ := getSome (l := vs) (i := p) (by omega)
  obtain ⟨l, hL⟩ := getSome (l := L) (i := p) (by omega)
  obtain ⟨a, c, rfl⟩ := (h3 p u l hu hL).slice
  exact ⟨a, _, c, by rw [h1.cellAt p (by omega), hu], h1.frozenAt p⟩
theorem replicate_get {α : Type} {n i : Nat} {x y : α} (h : (List.replicate n x)[i]? = some y) : y = x := by
  obtain ⟨h1, h2⟩ := List.getElem?_eq_some_iff.1 h
  simpa using h2.symm
theorem OwnP.start (W : World) (base n : Nat) (hb : base ≤ W.heap.size) (hn : n ≤ 100) :
    ∃ W1, (Instr.makeSlice 22 (.int .i64 (n : Int)) (.int .i64 (n : Int))).run Tryz.prog W = .ok (runsV W.heap.size n) W1 ∧ OwnP W1 base W.heap.size n (List.replicate n []) ∧ Below W.heap.size W W1 := by
  obtain ⟨i0, hi, hz0, hz1, hz2⟩ := info_parts Tryz.infoRows
  obtain ⟨W1, h1, h2, h3⟩ := run_make_full (P := Tryz.prog) W base 22 29 i0 _ 1 Tryz.underlying22 hi hz0 hz1 .i64 .i64 n (by rw [hz2]; omega) (by unfold maxLen; omega) hb
  refine ⟨W1, h1, ⟨List.replicate n (.slice none 0 0), ?_, by simp, fun i u l hu hl => ?_, fun i j u u' k _ hu _ hk => ?_⟩, ?_⟩
  · have : (madeCells (Value.slice none 0 0).cells (n * 1)).toList = List.replicate n (.slice none 0 0) := by rw [Nat.mul_one]; exact toList_madeCells_one _ n
    rw [this] at h2
    exact h2
  · rw [replicate_get hu, replicate_get hl]
    exact OwnW.nil _ _
  · rw [replicate_get hu] at hk
    cases hk
  · exact (Below.refl _ _).grown h3 (Nat.le_refl _) (fun k hk => by cases hk)
/-- One row more of the partition p. -/
theorem OwnP.put {W : World} {base g n p : Nat} {L : List (List Rw)} {l : List Rw} {x : Raw} {r : Rw} {u : Value} {b : Nat} (ty : TypeId) (h : OwnP W base g n L) (hL : L[p]? = some l) (hu : W.cell? ⟨g, p, none⟩ = some u)
    (hx : XS W (.slice (some ⟨b, 0, none⟩) 1 1) [x]) (hr : IsW W base x r) (hl : l.length ≤ 100000) (hb : base ≤ W.heap.size) :
    ∃ v' W', (Builtin.append_ #[29, 29] ty #[u, .slice (some ⟨b, 0, none⟩) 1 1]).run Tryz.prog W = .ok v' W' ∧ W'.frozen? ⟨g, p, none⟩ = false ∧ (∃ a m c, v' = .slice a m c) ∧ (∃ u', W'.cell? ⟨g, p, none⟩ = some u') ∧ OwnP (W'.setCell ⟨g, p, none⟩ v') base g n (L.set p (l ++ [r])) ∧ Below base W (W'.setCell ⟨g, p, none⟩ v') := by
  have hbg := h.lt
  obtain ⟨vs, h1, h2, h3, h4⟩ := h
  have hvl : vs.length = n := by simpa using h1.1
  have hp : p < n := by have := (List.getElem?_eq_some_iff.1 hL).1; omega
  obtain ⟨u0, hu0⟩ := getSome (l := vs) (i := p) (by omega)
  have e0 : u0 = u := by
    have := h1.cellAt p (by omega)
    rw [hu, hu0] at this
    injection this with this
    exact this.symm
  subst e0
  obtain ⟨xs, hox, hax⟩ := h3 p u0 l hu0 hL
  obtain ⟨v', W', hrun, hox', hgr, hown⟩ := append_xs ty hox hx (by have := hax.1; simp; omega) hb
  have hk2 := keep_row hox hgr
  have k1 : KeepT 29 W W' := KeepT.row (by decide) hox hgr
  obtain ⟨cur, hcur, hcs⟩ : ∃ cur : Array Value, W.heap[g]? = some (.cells cur 29 (0, 0)) ∧ cur.size = n * 1 := by
    rcases h1.2 with ⟨e, _⟩ | ⟨g', cap, cur, e, hb', hg', _, _, hs, _⟩
    · cases e
    · injection e with e1 e2 e3
      injection e1 with e1
      injection e1 with e1
      subst e1 e3
      exact ⟨cur, hg', hs⟩
  have hcur' := k1 g cur hcur
  have h1' : W'.ownsRow base 29 1 (runsV g n) n vs := by
    refine ⟨h1.1, ?_⟩
    rcases h1.2 with ⟨e, e2⟩ | ⟨g', cap, cur', e, hb', hg', hrest⟩
    · exact .inl ⟨e, e2⟩
    · exact .inr ⟨g', cap, cur', e, hb', k1 g' cur' hg', hrest⟩
  have hs1 := hgr.size
  have kR : KeepT 47 W' (W'.setCell ⟨g, p, none⟩ v') := keepT_set (by decide) hcur'
  have kN : KeepT 2 W' (W'.setCell ⟨g, p, none⟩ v') := keepT_set (by decide) hcur'
  have kN' : Keep2 W' (W'.setCell ⟨g, p, none⟩ v') := ⟨by simp, kN⟩
  have hnew : OwnW W' base v' (l ++ [r]) := ⟨xs ++ [x], hox', (hax.keep hk2).snoc (hr.keep hk2)⟩
  have hget : ∀ (j : Nat), j ≠ p → (vs.set p v')[j]? = vs[j]? := fun j hj => List.getElem?_set_ne (fun e => hj e.symm)
  have hgetL : ∀ (j : Nat), j ≠ p → (L.set p (l ++ [r]))[j]? = L[j]? := fun j hj => List.getElem?_set_ne (fun e => hj e.symm)
  have hgp : (vs.set p v')[p]? = some v' := by rw [List.getElem?_set_self (by omega)]
  have hgpL : (L.set p (l ++ [r]))[p]? = some (l ++ [r]) := by rw [List.getElem?_set_self (by omega)]
  refine ⟨v', W', hrun, h1'.frozenAt p, ?_, ⟨u0, by rw [h1'.cellAt p (by omega), hu0]⟩, ⟨vs.set p v', (h1'.stored p v').1, by simpa using h2, ?_, ?_⟩, ?_⟩
  · obtain ⟨a, c, e⟩ := hnew.slice
    exact ⟨a, _, c, e⟩
  · intro i y m hy hm
    by_cases hi : i = p
    · subst hi
      rw [hgp] at hy
      rw [hgpL] at hm
      injection hy with hy
      injection hm with hm
      subst hy hm
      exact hnew.keepT (by simp) kR kN
    · rw [hget i hi] at hy
      rw [hgetL i hi] at hm
      obtain ⟨ys, q1, q2⟩ := h3 i y m hy hm
      have q3 : OwnX W' base y ys := q1.other hgr (fun k hk => h4 i p y u0 k hi hy hu0 hk)
      exact ⟨ys, q3.keepT kR, (q2.keep hk2).keep kN'⟩
  · intro i j y y' k hij hy hy' hk
    have hlt : ∀ (i : Nat) (y : Value) (k : Nat), vs[i]? = some y → y.ownBlock = some k → k < W.heap.size := fun i y k hy hk => by
      have hi : i < n := by have := (List.getElem?_eq_some_iff.1 hy).1; omega
      obtain ⟨m, hm⟩ := getSome (l := L) (i := i) (by omega)
      obtain ⟨ys, q1, -⟩ := h3 i y m hy hm
      exact q1.blk hk
    by_cases hi : i = p
    · subst hi
      rw [hgp] at hy
      injection hy with hy
      subst hy
      rw [hget j (fun e => hij e.symm)] at hy'
      intro e
      rcases hown with ho | ho
      · rw [ho] at hk
        exact h4 i j u0 y' k hij hu0 hy' hk e
      · rw [ho] at hk
        injection hk with hk
        have := hlt j y' k hy' e
        omega
    · rw [hget i hi] at hy
      by_cases hj : j = p
      · subst hj
        rw [hgp] at hy'
        injection hy' with hy'
        subst hy'
        intro e
        rcases hown with ho | ho
        · rw [ho] at e
          exact h4 i j y u0 k hij hy hu0 hk e
        · rw [ho] at e
          injection e with e
          have := hlt i y k hy hk
          omega
      · rw [hget j hj] at hy'
        exact h4 i j y y' k hij hy hy' hk
  · exact ((Below.refl base W).grown hgr hb (own_row hox)).setCell (p := ⟨g, p, none⟩) hbg.1 v'
/-- The partitions of so many rows, and of one more. -/
theorem prt_put {n : Int} {l : List Rw} {k p : Nat} {r : Rw} (hk : l[k]? = some r) (hp : ofP n r.1 = p) (hn : p < n.toNat) : (prt n (l.take k))[p]? = some (partR (ofP n) (l.take k) p) ∧ (prt n (l.take k)).set p (partR (ofP n) (l.take k) p ++ [r]) = prt n (l.take (k + 1)) := by
  refine ⟨partsR_get _ _ hn, ?_⟩
  rw [List.take_add_one, hk]
  show _ = prt n (l.take k ++ [r])
  apply List.ext_getElem?
  intro i
  by_cases hi : i < n.toNat
  · rw [partsR_get _ _ hi, partR_snoc]
    by_cases he : p = i
    · subst he
      rw [if_pos hp, List.getElem?_set_self (by rw [partsR_len]; exact hi)]
    · rw [if_neg (by omega), List.getElem?_set_ne he, partsR_get _ _ hi]
  · rw [List.getElem?_eq_none (by rw [List.length_set, partsR_len]; omega), List.getElem?_eq_none (by rw [partsR_len]; omega)]
theorem prt_nil (n : Int) : prt n [] = List.replicate n.toNat [] := by
  apply List.ext_getElem?
  intro i
  by_cases hi : i < n.toNat
  · rw [partsR_get _ _ hi]; simp [hi, partR]
  · rw [List.getElem?_eq_none (by rw [partsR_len]; omega), List.getElem?_eq_none (by simp; omega)]
end Go.Proofs.YtejgcflcckjlpaaGreatDoor
