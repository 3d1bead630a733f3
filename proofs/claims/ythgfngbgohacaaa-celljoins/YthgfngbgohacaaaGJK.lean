/- What the law of joins reads, all along. -/
import Derived.Test.YthgfngbgohacaaaGGath
import Derived.Test.YthgfngbgohacaaaGRMay
import Derived.Test.YthgfngbgohacaaaGRWay
import Derived.Deep.CutBlock
import Derived.Deep.CutRange
namespace Go.Proofs.Ythgfngbgohacaaa
open Go.RowKit
set_option linter.unusedVariables false
set_option maxRecDepth 100000

/-- Cells that came in, in whatever world comes behind. -/
theorem cells_at {W0 : World} {aL : Option Addr} {n cap : Nat} {L : List Cl} (h : LS W0 (.slice aL n cap) L) : ∀ i c, L[i]? = some c → ∃ p o a cp, aL = some ⟨p, o, none⟩ ∧ ∀ W', Below W0.heap.size W0 W' → W'.cell? ⟨p, o + i * 2, none⟩ = some (.int .i64 c.1) ∧ W'.cell? ⟨p, o + i * 2 + 1, none⟩ = some (.slice a c.2.length cp) ∧ NS W' (.slice a c.2.length cp) c.2 := fun i c hc => by
  obtain ⟨a', c', e, h⟩ := h
  injection e with e1 e2 e3
  subst e1 e3
  rcases h with e | ⟨p, o, rfl, hp, hat⟩
  · rw [e] at hc; simp at hc
  · obtain ⟨h1, a, cp, h2, h3⟩ := hat i c hc
    refine ⟨p, o, a, cp, rfl, fun W' hW' => ⟨(hW'.cell (p := ⟨p, o + i * 2, none⟩) hp).trans h1, (hW'.cell (p := ⟨p, o + i * 2 + 1, none⟩) hp).trans h2, h3.below hW'⟩⟩
/-- A number is read. -/
abbrev VP (W0 : World) (b0 : Nat) (ag bo : Int) (p o n cv k : Nat) (v : Int) (W : World) : Prop :=
  W.cell? ⟨b0, 0, none⟩ = some (.int .i64 ag) ∧ W.cell? ⟨b0, 1, none⟩ = some (.int .i64 bo) ∧ W.cell? ⟨b0, 3, none⟩ = some (.slice (some ⟨p, o, none⟩) n cv) ∧ W.cell? ⟨p, o + k, none⟩ = some (.int .i64 v)
theorem keepV {W0 W : World} {b0 : Nat} {ag bo : Int} {p o n cv k : Nat} {v : Int} {vl : Value} {x : ByteArray} (hb : Below W0.heap.size W0 W) (hB : Box W0 b0 ag bo vl (.slice (some ⟨p, o, none⟩) n cv) x) (hv : ∀ W', Below W0.heap.size W0 W' → W'.cell? ⟨p, o + k, none⟩ = some (.int .i64 v)) : VP W0 b0 ag bo p o n cv k v W := by
  obtain ⟨h0, h1, _, h3, _⟩ := (hB.below hb).cells
  exact ⟨h0, h1, h3, hv _ hb⟩
/-- The zero of a cell, then what is stored there. -/
theorem zero_set {W0 W W' : World} {b : Nat} {d : Cl} {a : Option Addr} {cap base : Nat} (hb0 : Below W0.heap.size W0 W) (hlt : b < W.heap.size) (hge : W0.heap.size ≤ b) (hz : BlkC W b 0 (.slice none 0 0)) (hb : Below W.heap.size W W') (ho : OwnL W' base (.slice a d.2.length cap) d.2) (hbs : b < base) : TB W0 b d a cap ((W'.setCell ⟨b, 0, none⟩ (.int .i64 d.1)).setCell ⟨b, 1, none⟩ (.slice a d.2.length cap)) :=
  ⟨below_set (nxt hb0 hb) hge _ _, (hz.below hb).set, (own_set ho hbs _ _).ns⟩
/-- A cell of the row is read. -/
abbrev LP (b0 : Nat) (ag bo : Int) (p o n cL k : Nat) (c : Cl) (a : Option Addr) (cp : Nat) (W : World) : Prop :=
  W.cell? ⟨b0, 0, none⟩ = some (.int .i64 ag) ∧ W.cell? ⟨b0, 1, none⟩ = some (.int .i64 bo) ∧ W.cell? ⟨b0, 2, none⟩ = some (.slice (some ⟨p, o, none⟩) n cL) ∧ W.cell? ⟨p, o + k * 2, none⟩ = some (.int .i64 c.1) ∧ W.cell? ⟨p, o + k * 2 + 1, none⟩ = some (.slice a c.2.length cp)
/-- What is told of a cell of the row, in whatever world comes behind. -/
def CC (W0 : World) (p o k : Nat) (c : Cl) (a : Option Addr) (cp : Nat) : Prop := ∀ W', Below W0.heap.size W0 W' → W'.cell? ⟨p, o + k * 2, none⟩ = some (.int .i64 c.1) ∧ W'.cell? ⟨p, o + k * 2 + 1, none⟩ = some (.slice a c.2.length cp) ∧ NS W' (.slice a c.2.length cp) c.2
theorem keepL {W0 W : World} {b0 : Nat} {ag bo : Int} {p o n cL k cp : Nat} {c : Cl} {a : Option Addr} {vv : Value} {x : ByteArray} (hb : Below W0.heap.size W0 W) (hB : Box W0 b0 ag bo (.slice (some ⟨p, o, none⟩) n cL) vv x) (hc : CC W0 p o k c a cp) : LP b0 ag bo p o n cL k c a cp W := by
  obtain ⟨h0, h1, h2, _, _⟩ := (hB.below hb).cells
  obtain ⟨h3, h4, _⟩ := hc _ hb
  exact ⟨h0, h1, h2, h3, h4⟩
theorem CC.cs {W0 W : World} {p o k cp : Nat} {c : Cl} {a : Option Addr} (h : CC W0 p o k c a cp) (hb : Below W0.heap.size W0 W) : CS W (.agg #[.int .i64 c.1, .slice a c.2.length cp]) c := ⟨a, cp, rfl, (h W hb).2.2⟩
/-- Two of them, and all that lay there before. -/
abbrev LQ (W0 : World) (b0 : Nat) (p o n cL k t : Nat) (c d : Cl) (a : Option Addr) (cp : Nat) (a' : Option Addr) (cp' : Nat) (W : World) : Prop :=
  W.cell? ⟨b0, 2, none⟩ = some (.slice (some ⟨p, o, none⟩) n cL) ∧ (W.cell? ⟨p, o + k * 2, none⟩ = some (.int .i64 c.1) ∧ W.cell? ⟨p, o + k * 2 + 1, none⟩ = some (.slice a c.2.length cp)) ∧ (W.cell? ⟨p, o + t * 2, none⟩ = some (.int .i64 d.1) ∧ W.cell? ⟨p, o + t * 2 + 1, none⟩ = some (.slice a' d.2.length cp')) ∧ Below W0.heap.size W0 W
theorem mkLQ {W0 W : World} {b0 : Nat} {ag bo : Int} {p o n cL k t cp cp' : Nat} {c d : Cl} {a a' : Option Addr} {vv : Value} {x : ByteArray} (hB : Box W0 b0 ag bo (.slice (some ⟨p, o, none⟩) n cL) vv x) (hc : CC W0 p o k c a cp) (hd : CC W0 p o t d a' cp') (hb : Below W0.heap.size W0 W) : LQ W0 b0 p o n cL k t c d a cp a' cp' W :=
  ⟨(hB.below hb).cells.2.2.1, ⟨(hc _ hb).1, (hc _ hb).2.1⟩, ⟨(hd _ hb).1, (hd _ hb).2.1⟩, hb⟩
theorem LQ.bel {W0 W : World} {b0 : Nat} {p o n cL k t cp cp' : Nat} {c d : Cl} {a a' : Option Addr} (h : LQ W0 b0 p o n cL k t c d a cp a' cp' W) : Below W0.heap.size W0 W := h.2.2.2
end Go.Proofs.Ythgfngbgohacaaa
