/- EvalWorks: the walk. -/
import Derived.Test.YtkmnpaiippgnmaaQEWork
import Derived.Test.YtkmnpaiippgnmaaQB
import Derived.Deep.QuietTactic
import Derived.BigQuiet
namespace Go.Proofs.Ytkmnpaiippgnmaa
open Go.RowKit
set_option linter.unusedVariables false
set_option maxRecDepth 100000

def txs : List (List UInt8) := [wt0, wt1, wt2, wt3, wt4, wt5, wt6, wt7, wt8, wt9, wt10, wt11]
def wns (v z : Int) : List Int := [wrap64 (v + 1), 21, v % 256, wrap64 (IntKind.i16.wrap v), wrap64 (IntKind.u64.wrap v / 8), v, 1, v, z, 0, 1, v]
theorem small (v z : Int) (h1 : -9223372036854775808 ≤ v) (h2 : v ≤ 9223372036854775807) (hz : z = if v < 0 then 1 else 2) : ∀ (k : Nat) (u : List UInt8), txs[k]? = some u → ∃ f m y, (wns v z)[k]? = some y ∧ Prog (ba u) (.ok f [] m) ∧ Does f v y := by
  intro k u hu
  have h8 : Does wf8 v z := by
    rw [hz]
    split
    · rename_i h; exact wd8_neg v h
    · rename_i h; exact wd8_pos v h
  match k, hu with
  | 0, hu => injection hu with hu; subst hu; exact ⟨_, _, _, rfl, wp0, wdo0 v⟩
  | 1, hu => injection hu with hu; subst hu; exact ⟨_, _, _, rfl, wp1, wdo1 v⟩
  | 2, hu => injection hu with hu; subst hu; exact ⟨_, _, _, rfl, wp2, wdo2 v⟩
  | 3, hu => injection hu with hu; subst hu; exact ⟨_, _, _, rfl, wp3, wdo3 v⟩
  | 4, hu => injection hu with hu; subst hu; exact ⟨_, _, _, rfl, wp4, wdo4 v⟩
  | 5, hu => injection hu with hu; subst hu; exact ⟨_, _, _, rfl, wp5, wdo5 v h1 h2⟩
  | 6, hu => injection hu with hu; subst hu; exact ⟨_, _, _, rfl, wp6, wdo6 v⟩
  | 7, hu => injection hu with hu; subst hu; exact ⟨_, _, _, rfl, wp7, wdo7 v⟩
  | 8, hu => injection hu with hu; subst hu; exact ⟨_, _, _, rfl, wp8, h8⟩
  | 9, hu => injection hu with hu; subst hu; exact ⟨_, _, _, rfl, wp9, wdo9 v⟩
  | 10, hu => injection hu with hu; subst hu; exact ⟨_, _, _, rfl, wp10, wdo10 v⟩
  | 11, hu => injection hu with hu; subst hu; exact ⟨_, _, _, rfl, wp11, wdo11 v⟩
  | k + 12, hu => simp [txs] at hu
/-- All along a record's programs. -/
structure WK (vs vl vr vf : Value) (l : List ByteArray) (f : Fo) (lr : List Rc) (lf : List Int) (w : World) (b : Nat) (v z : Int) (W : World) : Prop where
  ask : AskE vs vl vr vf l f lr lf w W
  rc : W.heap[b]? = some (.cells #[.int .i64 7, .string abc, .int .i64 v] 37 (0, 0))
  tx : SS W (.slice (some ⟨b + 1, 0, none⟩) 12 12) (txs.map ba)
  wn : NumsAt W (b + 2) 0 (wns v z) ∧ b + 2 < W.heap.size
theorem WK.call {vs vl vr vf : Value} {l : List ByteArray} {f : Fo} {lr : List Rc} {lf : List Int} {w W W' : World} {b : Nat} {v z : Int} (h : WK vs vl vr vf l f lr lf w b v z W) (hb : Below W.heap.size W W') : WK vs vl vr vf l f lr lf w b v z W' :=
  ⟨h.ask.call hb, by rw [hb.block _ (by have := h.wn.2; omega)]; exact h.rc, h.tx.below hb, h.wn.1.below hb h.wn.2, Nat.lt_of_lt_of_le h.wn.2 hb.size⟩
theorem wk_start {vs vl vr vf : Value} {l : List ByteArray} {f : Fo} {lr : List Rc} {lf : List Int} {w wr : World} (v z : Int) (h : AskE vs vl vr vf l f lr lf w wr) :
    WK vs vl vr vf l f lr lf w wr.heap.size v z (((wr.alloc (.cells #[.int .i64 7, .string abc, .int .i64 v] 37)).alloc (.cells #[.string ⟨#[48, 32, 118, 32, 49, 32, 43, 32, 101, 109, 105, 116]⟩, .string ⟨#[48, 32, 97, 32, 108, 101, 110, 32, 42, 32, 101, 109, 105, 116]⟩, .string ⟨#[48, 32, 118, 32, 117, 56, 32, 101, 109, 105, 116]⟩, .string ⟨#[48, 32, 118, 32, 115, 49, 54, 32, 101, 109, 105, 116]⟩, .string ⟨#[48, 32, 118, 32, 51, 32, 62, 62, 62, 32, 101, 109, 105, 116]⟩, .string ⟨#[48, 32, 118, 32, 118, 32, 118, 32, 94, 32, 43, 32, 101, 109, 105, 116]⟩, .string ⟨#[48, 32, 118, 32, 100, 117, 112, 32, 61, 32, 101, 109, 105, 116]⟩, .string ⟨#[49, 32, 114, 101, 112, 32, 91, 32, 48, 32, 118, 32, 101, 109, 105, 116, 32, 93]⟩, .string ⟨#[118, 32, 48, 32, 60, 32, 105, 102, 32, 91, 32, 48, 32, 49, 32, 101, 109, 105, 116, 32, 93, 32, 118, 32, 48, 32, 60, 32, 110, 111, 116, 32, 105, 102, 32, 91, 32, 48, 32, 50, 32, 101, 109, 105, 116, 32, 93]⟩, .string ⟨#[48, 32, 118, 32, 48, 32, 47, 32, 101, 109, 105, 116]⟩, .string ⟨#[49, 32, 48, 32, 115, 119, 97, 112, 32, 101, 109, 105, 116]⟩, .string ⟨#[48, 32, 118, 32, 49, 32, 50, 32, 112, 111, 112, 32, 112, 111, 112, 32, 101, 109, 105, 116]⟩] 9)).alloc (.cells #[.int .i64 (wrap64 (v + 1)), .int .i64 21, .int .i64 (v % 256), .int .i64 (wrap64 (IntKind.i16.wrap v)), .int .i64 (wrap64 (IntKind.u64.wrap v / 8)), .int .i64 v, .int .i64 1, .int .i64 v, .int .i64 z, .int .i64 0, .int .i64 1, .int .i64 v] 2)) := by
  have e1 : (wr.alloc (.cells #[.int .i64 7, .string abc, .int .i64 v] 37)).heap.size = wr.heap.size + 1 := by simp
  have e2 : ((wr.alloc (.cells #[.int .i64 7, .string abc, .int .i64 v] 37)).alloc (.cells #[.string ⟨#[48, 32, 118, 32, 49, 32, 43, 32, 101, 109, 105, 116]⟩, .string ⟨#[48, 32, 97, 32, 108, 101, 110, 32, 42, 32, 101, 109, 105, 116]⟩, .string ⟨#[48, 32, 118, 32, 117, 56, 32, 101, 109, 105, 116]⟩, .string ⟨#[48, 32, 118, 32, 115, 49, 54, 32, 101, 109, 105, 116]⟩, .string ⟨#[48, 32, 118, 32, 51, 32, 62, 62, 62, 32, 101, 109, 105, 116]⟩, .string ⟨#[48, 32, 118, 32, 118, 32, 118, 32, 94, 32, 43, 32, 101, 109, 105, 116]⟩, .string ⟨#[48, 32, 118, 32, 100, 117, 112, 32, 61, 32, 101, 109, 105, 116]⟩, .string ⟨#[49, 32, 114, 101, 112, 32, 91, 32, 48, 32, 118, 32, 101, 109, 105, 116, 32, 93]⟩, .string ⟨#[118, 32, 48, 32, 60, 32, 105, 102, 32, 91, 32, 48, 32, 49, 32, 101, 109, 105, 116, 32, 93, 32, 118, 32, 48, 32, 60, 32, 110, 111, 116, 32, 105, 102, 32, 91, 32, 48, 32, 50, 32, 101, 109, 105, 116, 32, 93]⟩, .string ⟨#[48, 32, 118, 32, 48, 32, 47, 32, 101, 109, 105, 116]⟩, .string ⟨#[49, 32, 48, 32, 115, 119, 97, 112, 32, 101, 109, 105, 116]⟩, .string ⟨#[48, 32, 118, 32, 49, 32, 50, 32, 112, 111, 112, 32, 112, 111, 112, 32, 101, 109, 105, 116]⟩] 9)).heap.size = wr.heap.size + 2 := by simp
  have b1 := (Below.refl wr.heap.size wr).alloc (Nat.le_refl _) (.cells #[.int .i64 7, .string abc, .int .i64 v] 37)
  have b2 := b1.alloc (by rw [e1]; omega) (.cells #[.string ⟨#[48, 32, 118, 32, 49, 32, 43, 32, 101, 109, 105, 116]⟩, .string ⟨#[48, 32, 97, 32, 108, 101, 110, 32, 42, 32, 101, 109, 105, 116]⟩, .string ⟨#[48, 32, 118, 32, 117, 56, 32, 101, 109, 105, 116]⟩, .string ⟨#[48, 32, 118, 32, 115, 49, 54, 32, 101, 109, 105, 116]⟩, .string ⟨#[48, 32, 118, 32, 51, 32, 62, 62, 62, 32, 101, 109, 105, 116]⟩, .string ⟨#[48, 32, 118, 32, 118, 32, 118, 32, 94, 32, 43, 32, 101, 109, 105, 116]⟩, .string ⟨#[48, 32, 118, 32, 100, 117, 112, 32, 61, 32, 101, 109, 105, 116]⟩, .string ⟨#[49, 32, 114, 101, 112, 32, 91, 32, 48, 32, 118, 32, 101, 109, 105, 116, 32, 93]⟩, .string ⟨#[118, 32, 48, 32, 60, 32, 105, 102, 32, 91, 32, 48, 32, 49, 32, 101, 109, 105, 116, 32, 93, 32, 118, 32, 48, 32, 60, 32, 110, 111, 116, 32, 105, 102, 32, 91, 32, 48, 32, 50, 32, 101, 109, 105, 116, 32, 93]⟩, .string ⟨#[48, 32, 118, 32, 48, 32, 47, 32, 101, 109, 105, 116]⟩, .string ⟨#[49, 32, 48, 32, 115, 119, 97, 112, 32, 101, 109, 105, 116]⟩, .string ⟨#[48, 32, 118, 32, 49, 32, 50, 32, 112, 111, 112, 32, 112, 111, 112, 32, 101, 109, 105, 116]⟩] 9)
  have b3 := b2.alloc (by rw [e2]; omega) (.cells #[.int .i64 (wrap64 (v + 1)), .int .i64 21, .int .i64 (v % 256), .int .i64 (wrap64 (IntKind.i16.wrap v)), .int .i64 (wrap64 (IntKind.u64.wrap v / 8)), .int .i64 v, .int .i64 1, .int .i64 v, .int .i64 z, .int .i64 0, .int .i64 1, .int .i64 v] 2)
  have n1 : (wr.alloc (.cells #[.int .i64 7, .string abc, .int .i64 v] 37)).heap[wr.heap.size]? = some (.cells #[.int .i64 7, .string abc, .int .i64 v] 37 (0, 0)) := heap_alloc_new wr _
  have n2 : ((wr.alloc (.cells #[.int .i64 7, .string abc, .int .i64 v] 37)).alloc (.cells #[.string ⟨#[48, 32, 118, 32, 49, 32, 43, 32, 101, 109, 105, 116]⟩, .string ⟨#[48, 32, 97, 32, 108, 101, 110, 32, 42, 32, 101, 109, 105, 116]⟩, .string ⟨#[48, 32, 118, 32, 117, 56, 32, 101, 109, 105, 116]⟩, .string ⟨#[48, 32, 118, 32, 115, 49, 54, 32, 101, 109, 105, 116]⟩, .string ⟨#[48, 32, 118, 32, 51, 32, 62, 62, 62, 32, 101, 109, 105, 116]⟩, .string ⟨#[48, 32, 118, 32, 118, 32, 118, 32, 94, 32, 43, 32, 101, 109, 105, 116]⟩, .string ⟨#[48, 32, 118, 32, 100, 117, 112, 32, 61, 32, 101, 109, 105, 116]⟩, .string ⟨#[49, 32, 114, 101, 112, 32, 91, 32, 48, 32, 118, 32, 101, 109, 105, 116, 32, 93]⟩, .string ⟨#[118, 32, 48, 32, 60, 32, 105, 102, 32, 91, 32, 48, 32, 49, 32, 101, 109, 105, 116, 32, 93, 32, 118, 32, 48, 32, 60, 32, 110, 111, 116, 32, 105, 102, 32, 91, 32, 48, 32, 50, 32, 101, 109, 105, 116, 32, 93]⟩, .string ⟨#[48, 32, 118, 32, 48, 32, 47, 32, 101, 109, 105, 116]⟩, .string ⟨#[49, 32, 48, 32, 115, 119, 97, 112, 32, 101, 109, 105, 116]⟩, .string ⟨#[48, 32, 118, 32, 49, 32, 50, 32, 112, 111, 112, 32, 112, 111, 112, 32, 101, 109, 105, 116]⟩] 9)).heap[wr.heap.size + 1]? = some (.cells #[.string ⟨#[48, 32, 118, 32, 49, 32, 43, 32, 101, 109, 105, 116]⟩, .string ⟨#[48, 32, 97, 32, 108, 101, 110, 32, 42, 32, 101, 109, 105, 116]⟩, .string ⟨#[48, 32, 118, 32, 117, 56, 32, 101, 109, 105, 116]⟩, .string ⟨#[48, 32, 118, 32, 115, 49, 54, 32, 101, 109, 105, 116]⟩, .string ⟨#[48, 32, 118, 32, 51, 32, 62, 62, 62, 32, 101, 109, 105, 116]⟩, .string ⟨#[48, 32, 118, 32, 118, 32, 118, 32, 94, 32, 43, 32, 101, 109, 105, 116]⟩, .string ⟨#[48, 32, 118, 32, 100, 117, 112, 32, 61, 32, 101, 109, 105, 116]⟩, .string ⟨#[49, 32, 114, 101, 112, 32, 91, 32, 48, 32, 118, 32, 101, 109, 105, 116, 32, 93]⟩, .string ⟨#[118, 32, 48, 32, 60, 32, 105, 102, 32, 91, 32, 48, 32, 49, 32, 101, 109, 105, 116, 32, 93, 32, 118, 32, 48, 32, 60, 32, 110, 111, 116, 32, 105, 102, 32, 91, 32, 48, 32, 50, 32, 101, 109, 105, 116, 32, 93]⟩, .string ⟨#[48, 32, 118, 32, 48, 32, 47, 32, 101, 109, 105, 116]⟩, .string ⟨#[49, 32, 48, 32, 115, 119, 97, 112, 32, 101, 109, 105, 116]⟩, .string ⟨#[48, 32, 118, 32, 49, 32, 50, 32, 112, 111, 112, 32, 112, 111, 112, 32, 101, 109, 105, 116]⟩] 9 (0, 0)) := by
    have := heap_alloc_new (wr.alloc (.cells #[.int .i64 7, .string abc, .int .i64 v] 37)) (.cells #[.string ⟨#[48, 32, 118, 32, 49, 32, 43, 32, 101, 109, 105, 116]⟩, .string ⟨#[48, 32, 97, 32, 108, 101, 110, 32, 42, 32, 101, 109, 105, 116]⟩, .string ⟨#[48, 32, 118, 32, 117, 56, 32, 101, 109, 105, 116]⟩, .string ⟨#[48, 32, 118, 32, 115, 49, 54, 32, 101, 109, 105, 116]⟩, .string ⟨#[48, 32, 118, 32, 51, 32, 62, 62, 62, 32, 101, 109, 105, 116]⟩, .string ⟨#[48, 32, 118, 32, 118, 32, 118, 32, 94, 32, 43, 32, 101, 109, 105, 116]⟩, .string ⟨#[48, 32, 118, 32, 100, 117, 112, 32, 61, 32, 101, 109, 105, 116]⟩, .string ⟨#[49, 32, 114, 101, 112, 32, 91, 32, 48, 32, 118, 32, 101, 109, 105, 116, 32, 93]⟩, .string ⟨#[118, 32, 48, 32, 60, 32, 105, 102, 32, 91, 32, 48, 32, 49, 32, 101, 109, 105, 116, 32, 93, 32, 118, 32, 48, 32, 60, 32, 110, 111, 116, 32, 105, 102, 32, 91, 32, 48, 32, 50, 32, 101, 109, 105, 116, 32, 93]⟩, .string ⟨#[48, 32, 118, 32, 48, 32, 47, 32, 101, 109, 105, 116]⟩, .string ⟨#[49, 32, 48, 32, 115, 119, 97, 112, 32, 101, 109, 105, 116]⟩, .string ⟨#[48, 32, 118, 32, 49, 32, 50, 32, 112, 111, 112, 32, 112, 111, 112, 32, 101, 109, 105, 116]⟩] 9)
    rw [e1] at this
    exact this
  have n3 : (((wr.alloc (.cells #[.int .i64 7, .string abc, .int .i64 v] 37)).alloc (.cells #[.string ⟨#[48, 32, 118, 32, 49, 32, 43, 32, 101, 109, 105, 116]⟩, .string ⟨#[48, 32, 97, 32, 108, 101, 110, 32, 42, 32, 101, 109, 105, 116]⟩, .string ⟨#[48, 32, 118, 32, 117, 56, 32, 101, 109, 105, 116]⟩, .string ⟨#[48, 32, 118, 32, 115, 49, 54, 32, 101, 109, 105, 116]⟩, .string ⟨#[48, 32, 118, 32, 51, 32, 62, 62, 62, 32, 101, 109, 105, 116]⟩, .string ⟨#[48, 32, 118, 32, 118, 32, 118, 32, 94, 32, 43, 32, 101, 109, 105, 116]⟩, .string ⟨#[48, 32, 118, 32, 100, 117, 112, 32, 61, 32, 101, 109, 105, 116]⟩, .string ⟨#[49, 32, 114, 101, 112, 32, 91, 32, 48, 32, 118, 32, 101, 109, 105, 116, 32, 93]⟩, .string ⟨#[118, 32, 48, 32, 60, 32, 105, 102, 32, 91, 32, 48, 32, 49, 32, 101, 109, 105, 116, 32, 93, 32, 118, 32, 48, 32, 60, 32, 110, 111, 116, 32, 105, 102, 32, 91, 32, 48, 32, 50, 32, 101, 109, 105, 116, 32, 93]⟩, .string ⟨#[48, 32, 118, 32, 48, 32, 47, 32, 101, 109, 105, 116]⟩, .string ⟨#[49, 32, 48, 32, 115, 119, 97, 112, 32, 101, 109, 105, 116]⟩, .string ⟨#[48, 32, 118, 32, 49, 32, 50, 32, 112, 111, 112, 32, 112, 111, 112, 32, 101, 109, 105, 116]⟩] 9)).alloc (.cells #[.int .i64 (wrap64 (v + 1)), .int .i64 21, .int .i64 (v % 256), .int .i64 (wrap64 (IntKind.i16.wrap v)), .int .i64 (wrap64 (IntKind.u64.wrap v / 8)), .int .i64 v, .int .i64 1, .int .i64 v, .int .i64 z, .int .i64 0, .int .i64 1, .int .i64 v] 2)).heap[wr.heap.size + 2]? = some (.cells #[.int .i64 (wrap64 (v + 1)), .int .i64 21, .int .i64 (v % 256), .int .i64 (wrap64 (IntKind.i16.wrap v)), .int .i64 (wrap64 (IntKind.u64.wrap v / 8)), .int .i64 v, .int .i64 1, .int .i64 v, .int .i64 z, .int .i64 0, .int .i64 1, .int .i64 v] 2 (0, 0)) := by
    have := heap_alloc_new ((wr.alloc (.cells #[.int .i64 7, .string abc, .int .i64 v] 37)).alloc (.cells #[.string ⟨#[48, 32, 118, 32, 49, 32, 43, 32, 101, 109, 105, 116]⟩, .string ⟨#[48, 32, 97, 32, 108, 101, 110, 32, 42, 32, 101, 109, 105, 116]⟩, .string ⟨#[48, 32, 118, 32, 117, 56, 32, 101, 109, 105, 116]⟩, .string ⟨#[48, 32, 118, 32, 115, 49, 54, 32, 101, 109, 105, 116]⟩, .string ⟨#[48, 32, 118, 32, 51, 32, 62, 62, 62, 32, 101, 109, 105, 116]⟩, .string ⟨#[48, 32, 118, 32, 118, 32, 118, 32, 94, 32, 43, 32, 101, 109, 105, 116]⟩, .string ⟨#[48, 32, 118, 32, 100, 117, 112, 32, 61, 32, 101, 109, 105, 116]⟩, .string ⟨#[49, 32, 114, 101, 112, 32, 91, 32, 48, 32, 118, 32, 101, 109, 105, 116, 32, 93]⟩, .string ⟨#[118, 32, 48, 32, 60, 32, 105, 102, 32, 91, 32, 48, 32, 49, 32, 101, 109, 105, 116, 32, 93, 32, 118, 32, 48, 32, 60, 32, 110, 111, 116, 32, 105, 102, 32, 91, 32, 48, 32, 50, 32, 101, 109, 105, 116, 32, 93]⟩, .string ⟨#[48, 32, 118, 32, 48, 32, 47, 32, 101, 109, 105, 116]⟩, .string ⟨#[49, 32, 48, 32, 115, 119, 97, 112, 32, 101, 109, 105, 116]⟩, .string ⟨#[48, 32, 118, 32, 49, 32, 50, 32, 112, 111, 112, 32, 112, 111, 112, 32, 101, 109, 105, 116]⟩] 9)) (.cells #[.int .i64 (wrap64 (v + 1)), .int .i64 21, .int .i64 (v % 256), .int .i64 (wrap64 (IntKind.i16.wrap v)), .int .i64 (wrap64 (IntKind.u64.wrap v / 8)), .int .i64 v, .int .i64 1, .int .i64 v, .int .i64 z, .int .i64 0, .int .i64 1, .int .i64 v] 2)
    rw [e2] at this
    exact this
  have m1 : (((wr.alloc (.cells #[.int .i64 7, .string abc, .int .i64 v] 37)).alloc (.cells #[.string ⟨#[48, 32, 118, 32, 49, 32, 43, 32, 101, 109, 105, 116]⟩, .string ⟨#[48, 32, 97, 32, 108, 101, 110, 32, 42, 32, 101, 109, 105, 116]⟩, .string ⟨#[48, 32, 118, 32, 117, 56, 32, 101, 109, 105, 116]⟩, .string ⟨#[48, 32, 118, 32, 115, 49, 54, 32, 101, 109, 105, 116]⟩, .string ⟨#[48, 32, 118, 32, 51, 32, 62, 62, 62, 32, 101, 109, 105, 116]⟩, .string ⟨#[48, 32, 118, 32, 118, 32, 118, 32, 94, 32, 43, 32, 101, 109, 105, 116]⟩, .string ⟨#[48, 32, 118, 32, 100, 117, 112, 32, 61, 32, 101, 109, 105, 116]⟩, .string ⟨#[49, 32, 114, 101, 112, 32, 91, 32, 48, 32, 118, 32, 101, 109, 105, 116, 32, 93]⟩, .string ⟨#[118, 32, 48, 32, 60, 32, 105, 102, 32, 91, 32, 48, 32, 49, 32, 101, 109, 105, 116, 32, 93, 32, 118, 32, 48, 32, 60, 32, 110, 111, 116, 32, 105, 102, 32, 91, 32, 48, 32, 50, 32, 101, 109, 105, 116, 32, 93]⟩, .string ⟨#[48, 32, 118, 32, 48, 32, 47, 32, 101, 109, 105, 116]⟩, .string ⟨#[49, 32, 48, 32, 115, 119, 97, 112, 32, 101, 109, 105, 116]⟩, .string ⟨#[48, 32, 118, 32, 49, 32, 50, 32, 112, 111, 112, 32, 112, 111, 112, 32, 101, 109, 105, 116]⟩] 9)).alloc (.cells #[.int .i64 (wrap64 (v + 1)), .int .i64 21, .int .i64 (v % 256), .int .i64 (wrap64 (IntKind.i16.wrap v)), .int .i64 (wrap64 (IntKind.u64.wrap v / 8)), .int .i64 v, .int .i64 1, .int .i64 v, .int .i64 z, .int .i64 0, .int .i64 1, .int .i64 v] 2)).heap[wr.heap.size]? = some (.cells #[.int .i64 7, .string abc, .int .i64 v] 37 (0, 0)) := by
    rw [Below.heap_alloc _ _ _ (by rw [e2]; omega), Below.heap_alloc _ _ _ (by rw [e1]; omega)]; exact n1
  have m2 : (((wr.alloc (.cells #[.int .i64 7, .string abc, .int .i64 v] 37)).alloc (.cells #[.string ⟨#[48, 32, 118, 32, 49, 32, 43, 32, 101, 109, 105, 116]⟩, .string ⟨#[48, 32, 97, 32, 108, 101, 110, 32, 42, 32, 101, 109, 105, 116]⟩, .string ⟨#[48, 32, 118, 32, 117, 56, 32, 101, 109, 105, 116]⟩, .string ⟨#[48, 32, 118, 32, 115, 49, 54, 32, 101, 109, 105, 116]⟩, .string ⟨#[48, 32, 118, 32, 51, 32, 62, 62, 62, 32, 101, 109, 105, 116]⟩, .string ⟨#[48, 32, 118, 32, 118, 32, 118, 32, 94, 32, 43, 32, 101, 109, 105, 116]⟩, .string ⟨#[48, 32, 118, 32, 100, 117, 112, 32, 61, 32, 101, 109, 105, 116]⟩, .string ⟨#[49, 32, 114, 101, 112, 32, 91, 32, 48, 32, 118, 32, 101, 109, 105, 116, 32, 93]⟩, .string ⟨#[118, 32, 48, 32, 60, 32, 105, 102, 32, 91, 32, 48, 32, 49, 32, 101, 109, 105, 116, 32, 93, 32, 118, 32, 48, 32, 60, 32, 110, 111, 116, 32, 105, 102, 32, 91, 32, 48, 32, 50, 32, 101, 109, 105, 116, 32, 93]⟩, .string ⟨#[48, 32, 118, 32, 48, 32, 47, 32, 101, 109, 105, 116]⟩, .string ⟨#[49, 32, 48, 32, 115, 119, 97, 112, 32, 101, 109, 105, 116]⟩, .string ⟨#[48, 32, 118, 32, 49, 32, 50, 32, 112, 111, 112, 32, 112, 111, 112, 32, 101, 109, 105, 116]⟩] 9)).alloc (.cells #[.int .i64 (wrap64 (v + 1)), .int .i64 21, .int .i64 (v % 256), .int .i64 (wrap64 (IntKind.i16.wrap v)), .int .i64 (wrap64 (IntKind.u64.wrap v / 8)), .int .i64 v, .int .i64 1, .int .i64 v, .int .i64 z, .int .i64 0, .int .i64 1, .int .i64 v] 2)).heap[wr.heap.size + 1]? = some (.cells #[.string ⟨#[48, 32, 118, 32, 49, 32, 43, 32, 101, 109, 105, 116]⟩, .string ⟨#[48, 32, 97, 32, 108, 101, 110, 32, 42, 32, 101, 109, 105, 116]⟩, .string ⟨#[48, 32, 118, 32, 117, 56, 32, 101, 109, 105, 116]⟩, .string ⟨#[48, 32, 118, 32, 115, 49, 54, 32, 101, 109, 105, 116]⟩, .string ⟨#[48, 32, 118, 32, 51, 32, 62, 62, 62, 32, 101, 109, 105, 116]⟩, .string ⟨#[48, 32, 118, 32, 118, 32, 118, 32, 94, 32, 43, 32, 101, 109, 105, 116]⟩, .string ⟨#[48, 32, 118, 32, 100, 117, 112, 32, 61, 32, 101, 109, 105, 116]⟩, .string ⟨#[49, 32, 114, 101, 112, 32, 91, 32, 48, 32, 118, 32, 101, 109, 105, 116, 32, 93]⟩, .string ⟨#[118, 32, 48, 32, 60, 32, 105, 102, 32, 91, 32, 48, 32, 49, 32, 101, 109, 105, 116, 32, 93, 32, 118, 32, 48, 32, 60, 32, 110, 111, 116, 32, 105, 102, 32, 91, 32, 48, 32, 50, 32, 101, 109, 105, 116, 32, 93]⟩, .string ⟨#[48, 32, 118, 32, 48, 32, 47, 32, 101, 109, 105, 116]⟩, .string ⟨#[49, 32, 48, 32, 115, 119, 97, 112, 32, 101, 109, 105, 116]⟩, .string ⟨#[48, 32, 118, 32, 49, 32, 50, 32, 112, 111, 112, 32, 112, 111, 112, 32, 101, 109, 105, 116]⟩] 9 (0, 0)) := by
    rw [Below.heap_alloc _ _ _ (by rw [e2]; omega)]; exact n2
  refine ⟨h.call b3, m1, ⟨_, 12, rfl, .inr ⟨wr.heap.size + 1, 0, rfl, (Array.getElem?_eq_some_iff.1 m2).1, strsAt_of_block m2 rfl⟩⟩, ?_, (Array.getElem?_eq_some_iff.1 n3).1⟩
  intro i x hx
  have hx' : ((wns v z).map (Value.int .i64))[i]? = some (.int .i64 x) := by simp [hx]
  simp only [World.cell?, n3, Nat.zero_add]
  simpa [wns] using hx'
set_option maxHeartbeats 4000000 in
theorem lawew (vs vl vr vf : Value) (l : List ByteArray) (f : Fo) (lr : List Rc) (lf : List Int) (w : World) (h : In8 w vs vl vr vf l f lr lf) :
    Calls Try.prog 5 #[.agg #[vs, vl, vr, vf]] w fun e w' => e = .returned (.bool true) ∧ Below w.heap.size w w' := by
  have Hn := hidM num8_any
  have HA0 := hidM (AskE.start h)
  have hlr := h.r.2.1
  have HWR := hidM h.r.2.2
  obtain ⟨a, cap, hvs, _⟩ := h.s.1
  obtain ⟨a', cap', hvl⟩ := h.f.1.val
  obtain ⟨ar, capr, hvr, _⟩ := h.r.1
  obtain ⟨af, capf, hvf, _⟩ := h.n.1
  subst hvs hvl hvr hvf
  clear h
  go_enter Try.func5, Try.ntmps5
  go_wp2
  go_loopw [3] (fun i wr => ∃ q : Nat, q ≤ lr.length ∧ q ≤ 8 ∧ i = .int .i64 q ∧ AskE (.slice a l.length cap) (.slice a' f.len cap') (.slice ar lr.length capr) (.slice af lf.length capf) l f lr lf w wr) (fun i _ => 8 - (intOf i).toNat)
  case atStart => exact ⟨0, by omega, by omega, rfl, HA0.out⟩
  case round =>
    obtain ⟨q, hq, hq8, rfl, hA⟩ := hrel
    obtain ⟨c0, c1, c2, c3⟩ := hA.cells
    have HB := hidM hA
    have hwr0 := hA.lt
    by_cases hlt : q < lr.length ∧ q < 8
    · obtain ⟨hlt, hlt8⟩ := hlt
      obtain ⟨⟨⟨ya, yb⟩, v⟩, hy⟩ := getSome hlt
      obtain ⟨br, or', hae, hbr⟩ : ∃ b o, ar = some ⟨b, o, none⟩ ∧ b < wr.heap.size := by
        obtain ⟨a0, cap0, e0, h0⟩ := hA.inn.r.1
        injection e0 with e0 _ _
        subst e0
        rcases h0 with h0 | ⟨g, o, h1, h2, h3⟩
        · subst h0; simp at hlt
        · exact ⟨g, o, h1, h2⟩
      subst hae
      obtain ⟨d0, d1, d2⟩ := hA.inn.r.1.at q _ hy
      have hwv := HWR.out _ (List.mem_of_getElem? hy)
      have HV := hidM (And.intro hwv.v1 hwv.v2)
      simp only at HV
      have hq0 : (0 : Int) ≤ q := by omega
      have hqi : (q : Int) < lr.length := by omega
      have hq1 : (q : Int) < 8 := by omega
      clear hA hy hwv
      by_cases hneg : v < 0
      · have HZ : Hid ((1 : Int) = if v < 0 then 1 else 2) := by unfold Hid; rw [if_pos hneg]
        have HS0 := hidM (wk_start v 1 HB.out)
        go_wp2
        clear c0 c1 c2 c3 d0 d1 d2
        go_loopw [8] (fun i W => ∃ k : Nat, k ≤ 12 ∧ i = .int .i64 k ∧ WK (.slice a l.length cap) (.slice a' f.len cap') (.slice (some ⟨br, or', none⟩) lr.length capr) (.slice af lf.length capf) l f lr lf w wr.heap.size v 1 W) (fun i _ => 12 - (intOf i).toNat)
        case atStart => exact ⟨0, by omega, rfl, HS0.out⟩
        case round =>
          obtain ⟨k, hk1, rfl, hK⟩ := hrel
          rename World => W0
          have HK := hidM hK
          have hW00 := hK.ask.lt
          by_cases hkl : k < 12
          · obtain ⟨u, hu⟩ := getSome (l := txs) (i := k) (by simp [txs]; exact hkl)
            obtain ⟨gf, mm, y, hy, hpg, ⟨nl, hdo⟩⟩ := small v 1 HV.out.1 HV.out.2 HZ.out k u hu
            have hum : (txs.map ba)[k]? = some (ba u) := by simp [hu]
            have cu : W0.cell? ⟨wr.heap.size + 1, k, none⟩ = some (.string (ba u)) := by
              obtain ⟨a9, cap9, e9, h9⟩ := hK.tx
              rcases h9 with h9 | ⟨g9, o9, h1, h2, h3⟩
              · simp [txs] at h9
              · injection e9 with e9 _ _
                rw [← e9] at h1
                injection h1 with h1
                injection h1 with h1 h4
                subst h1 h4
                simpa using h3 k _ hum
            have hus : (ba u).size ≤ 140737488351232 := by
              have : u.length ≤ 60 := by
                match k, hu with
                | 0, hu => injection hu with hu; subst hu; decide
                | 1, hu => injection hu with hu; subst hu; decide
                | 2, hu => injection hu with hu; subst hu; decide
                | 3, hu => injection hu with hu; subst hu; decide
                | 4, hu => injection hu with hu; subst hu; decide
                | 5, hu => injection hu with hu; subst hu; decide
                | 6, hu => injection hu with hu; subst hu; decide
                | 7, hu => injection hu with hu; subst hu; decide
                | 8, hu => injection hu with hu; subst hu; decide
                | 9, hu => injection hu with hu; subst hu; decide
                | 10, hu => injection hu with hu; subst hu; decide
                | 11, hu => injection hu with hu; subst hu; decide
                | k + 12, hu => simp [txs] at hu
              show (ba u).size ≤ _
              simp [ByteArray.size]
              omega
            have Hp := hidM (rparse_any (ba u) W0 hus (by omega))
            have HPG := hidM hpg
            have HDO := hidM hdo
            have HYY := hidM hy
            have hk0 : (0 : Int) ≤ k := by omega
            have hki : (k : Int) < 12 := by omega
            generalize ba u = U at cu Hp HPG
            clear hK hu hpg hdo hum hus hy
            go_wp2_with (go_at_call 10; refine Hp.out.mono ?_)
            rintro e w3 ⟨rr, hpr, hb3, hres⟩
            obtain rfl := hpr.unique HPG.out
            obtain ⟨v3, rfl, hown3⟩ := hres
            obtain ⟨_, _, hOl, hwb⟩ := prog_ok HPG.out
            have HK3 := hidM (HK.out.call hb3)
            have hr1 := run_any gf v3 w3 ((7, abc), v) 100 hown3.fs.arg hOl hwb (show abc.size ≤ _ by decide)
            rw [HDO.out] at hr1
            have HR1 := hidM hr1
            obtain ⟨a3, cap3, rfl⟩ := hown3.len
            obtain ⟨x0, x1, x2⟩ := cell3 HK3.out.rc
            clear hb3 hown3 hwb hr1 cu hpr Hp
            go_wp2_with (go_at_call 13; refine HR1.out.mono ?_)
            rintro e wA ⟨vA, heA, hownA, hbA⟩
            simp only at heA hownA
            subst heA
            have HKA := hidM (HK3.out.call hbA)
            obtain ⟨gA, capA, rfl⟩ := row_succ hownA
            have hat := (RS.own hownA).at
            obtain ⟨d0, d1, d2⟩ := hat 0 _ rfl
            simp only [Nat.zero_mul, Nat.zero_add] at d0 d1 d2
            have dw := HKA.out.wn.1 k _ HYY.out
            rw [Nat.zero_add] at dw
            have hne := neR
            have hgd := guardR
            have he' : eqC ((0, abc), y) ((0, abc), y) = true := eqC_self _
            clear hownA hbA hat x0 x1 x2 HR1
            go_wp2
            go_quiet ((go_at_call 14; exact Calls.quiet_of_same (Hn.out _ _)))
            go_wp2
            have HKz := hidM (HKA.out.call (W' := wA.drewN nq) ⟨rfl, rfl, rfl, Nat.le_refl _, fun _ _ => rfl⟩)
            go_roundw
            case rel => exact ⟨k + 1, by omega, by go_num, HKz.out⟩
            case measure => simp [intOf]; omega
          · have hway : (12 : Int) ≤ (k : Int) := by omega
            clear hkl hK
            go_wp2
            go_roundw
            case rel => exact ⟨q + 1, by omega, by omega, by go_num, HK.out.ask⟩
            case measure => simp [intOf]; omega
      · have hneg' : 0 ≤ v := by omega
        have HZ : Hid ((2 : Int) = if v < 0 then 1 else 2) := by unfold Hid; rw [if_neg hneg]
        have HS0 := hidM (wk_start v 2 HB.out)
        clear hneg
        go_wp2
        clear c0 c1 c2 c3 d0 d1 d2
        go_loopw [8] (fun i W => ∃ k : Nat, k ≤ 12 ∧ i = .int .i64 k ∧ WK (.slice a l.length cap) (.slice a' f.len cap') (.slice (some ⟨br, or', none⟩) lr.length capr) (.slice af lf.length capf) l f lr lf w wr.heap.size v 2 W) (fun i _ => 12 - (intOf i).toNat)
        case atStart => exact ⟨0, by omega, rfl, HS0.out⟩
        case round =>
          obtain ⟨k, hk1, rfl, hK⟩ := hrel
          rename World => W0
          have HK := hidM hK
          have hW00 := hK.ask.lt
          by_cases hkl : k < 12
          · obtain ⟨u, hu⟩ := getSome (l := txs) (i := k) (by simp [txs]; exact hkl)
            obtain ⟨gf, mm, y, hy, hpg, ⟨nl, hdo⟩⟩ := small v 2 HV.out.1 HV.out.2 HZ.out k u hu
            have hum : (txs.map ba)[k]? = some (ba u) := by simp [hu]
            have cu : W0.cell? ⟨wr.heap.size + 1, k, none⟩ = some (.string (ba u)) := by
              obtain ⟨a9, cap9, e9, h9⟩ := hK.tx
              rcases h9 with h9 | ⟨g9, o9, h1, h2, h3⟩
              · simp [txs] at h9
              · injection e9 with e9 _ _
                rw [← e9] at h1
                injection h1 with h1
                injection h1 with h1 h4
                subst h1 h4
                simpa using h3 k _ hum
            have hus : (ba u).size ≤ 140737488351232 := by
              have : u.length ≤ 60 := by
                match k, hu with
                | 0, hu => injection hu with hu; subst hu; decide
                | 1, hu => injection hu with hu; subst hu; decide
                | 2, hu => injection hu with hu; subst hu; decide
                | 3, hu => injection hu with hu; subst hu; decide
                | 4, hu => injection hu with hu; subst hu; decide
                | 5, hu => injection hu with hu; subst hu; decide
                | 6, hu => injection hu with hu; subst hu; decide
                | 7, hu => injection hu with hu; subst hu; decide
                | 8, hu => injection hu with hu; subst hu; decide
                | 9, hu => injection hu with hu; subst hu; decide
                | 10, hu => injection hu with hu; subst hu; decide
                | 11, hu => injection hu with hu; subst hu; decide
                | k + 12, hu => simp [txs] at hu
              show (ba u).size ≤ _
              simp [ByteArray.size]
              omega
            have Hp := hidM (rparse_any (ba u) W0 hus (by omega))
            have HPG := hidM hpg
            have HDO := hidM hdo
            have HYY := hidM hy
            have hk0 : (0 : Int) ≤ k := by omega
            have hki : (k : Int) < 12 := by omega
            generalize ba u = U at cu Hp HPG
            clear hK hu hpg hdo hum hus hy
            go_wp2_with (go_at_call 10; refine Hp.out.mono ?_)
            rintro e w3 ⟨rr, hpr, hb3, hres⟩
            obtain rfl := hpr.unique HPG.out
            obtain ⟨v3, rfl, hown3⟩ := hres
            obtain ⟨_, _, hOl, hwb⟩ := prog_ok HPG.out
            have HK3 := hidM (HK.out.call hb3)
            have hr1 := run_any gf v3 w3 ((7, abc), v) 100 hown3.fs.arg hOl hwb (show abc.size ≤ _ by decide)
            rw [HDO.out] at hr1
            have HR1 := hidM hr1
            obtain ⟨a3, cap3, rfl⟩ := hown3.len
            obtain ⟨x0, x1, x2⟩ := cell3 HK3.out.rc
            clear hb3 hown3 hwb hr1 cu hpr Hp
            go_wp2_with (go_at_call 13; refine HR1.out.mono ?_)
            rintro e wA ⟨vA, heA, hownA, hbA⟩
            simp only at heA hownA
            subst heA
            have HKA := hidM (HK3.out.call hbA)
            obtain ⟨gA, capA, rfl⟩ := row_succ hownA
            have hat := (RS.own hownA).at
            obtain ⟨d0, d1, d2⟩ := hat 0 _ rfl
            simp only [Nat.zero_mul, Nat.zero_add] at d0 d1 d2
            have dw := HKA.out.wn.1 k _ HYY.out
            rw [Nat.zero_add] at dw
            have hne := neR
            have hgd := guardR
            have he' : eqC ((0, abc), y) ((0, abc), y) = true := eqC_self _
            clear hownA hbA hat x0 x1 x2 HR1
            go_wp2
            go_quiet ((go_at_call 14; exact Calls.quiet_of_same (Hn.out _ _)))
            go_wp2
            have HKz := hidM (HKA.out.call (W' := wA.drewN nq) ⟨rfl, rfl, rfl, Nat.le_refl _, fun _ _ => rfl⟩)
            go_roundw
            case rel => exact ⟨k + 1, by omega, by go_num, HKz.out⟩
            case measure => simp [intOf]; omega
          · have hway : (12 : Int) ≤ (k : Int) := by omega
            clear hkl hK
            go_wp2
            go_roundw
            case rel => exact ⟨q + 1, by omega, by omega, by go_num, HK.out.ask⟩
            case measure => simp [intOf]; omega
    · have Hw := hidM (wakes8_any wr)
      have hway2 : ((lr.length : Int) ≤ (q : Int)) ∨ ((q : Int) < (lr.length : Int) ∧ (8 : Int) ≤ (q : Int)) := by omega
      clear hlt hA
      rcases hway2 with g1 | ⟨g1, g2⟩
      all_goals
        go_wp2_with (go_at_call 12; refine Hw.out.mono ?_)
        rintro e w9 ⟨rfl, hb9⟩
        have hfin := HB.out.out.trans (hb9.mono (by omega))
        go_wp2
        go_ret
        exact ⟨rfl, hfin⟩
end Go.Proofs.Ytkmnpaiippgnmaa
