/- Texts laid together: LLay, LLib, LOpOf, LOpOf2, LNext. -/
import Derived.Test.YtaagllbcmgnbnaaGreatDoorRows
import Derived.Shelf.Strings.FieldsFuncAny
import Derived.Shelf.Strconv.ParseIntPublic10
import Derived.Shelf.Strconv.Itoa4
import Derived.Shelf.Strings.OnBuilder
import Derived.Test.YtaagllbcmgnbnaaGreatDoorMB15
import Derived.Test.YtaagllbcmgnbnaaGreatDoorMB23
import Derived.Sort.Grow
import Derived.Deep.CutBlock
import Derived.Deep.DeepCutAuto
/- The library's own, off the shelf: strings.FieldsFunc, strconv.ParseInt, strconv.FormatInt, strings.Join, at this program. -/
namespace Go.Proofs.YtaagllbcmgnbnaaGreatDoor
open Go.Shelf
def Tryz.lays229_ren : Go.Shelf.Ren := ⟨fun | 229 => 152 | n => n, fun | 9 => 9 | 40 => 235 | 31 => 52 | 152 => 268 | 3 => 3 | 0 => 0 | 4 => 4 | 21 => 21 | 154 => 270 | n => n, fun | n => n⟩
theorem Tryz.lays229 : Go.Proofs.Lays.n229 Tryz.prog Tryz.lays229_ren := {
  mixed := by kernel_rfl
  f229 := Tryz.func152.trans (congrArg some (by kernel_rfl))
  t0 := Tryz.underlying0
  a0 := Tryz.isAgg0
  z0 := Tryz.sizeOf0
  v0 := Tryz.zeroValue0
  t3 := Tryz.underlying3
  a3 := Tryz.isAgg3
  z3 := Tryz.sizeOf3
  v3 := Tryz.zeroValue3
  t4 := Tryz.underlying4
  a4 := Tryz.isAgg4
  z4 := Tryz.sizeOf4
  v4 := Tryz.zeroValue4
  t9 := Tryz.underlying9
  a9 := Tryz.isAgg9
  z9 := Tryz.sizeOf9
  v9 := Tryz.zeroValue9
  t21 := Tryz.underlying21
  a21 := Tryz.isAgg21
  z21 := Tryz.sizeOf21
  v21 := Tryz.zeroValue21
  t31 := Tryz.underlying52
  a31 := Tryz.isAgg52
  z31 := Tryz.sizeOf52
  v31 := Tryz.zeroValue52
  t40 := Tryz.underlying235
  a40 := Tryz.isAgg235
  z40 := Tryz.sizeOf235
  v40 := Tryz.zeroValue235
  t152 := Tryz.underlying268
  a152 := Tryz.isAgg268
  z152 := Tryz.sizeOf268
  v152 := Tryz.zeroValue268
  t154 := Tryz.underlying270
  a154 := Tryz.isAgg270
  z154 := Tryz.sizeOf270
  v154 := Tryz.zeroValue270 }
def Tryz.lays174_ren : Go.Shelf.Ren := ⟨fun | 174 => 222 | 247 => 229 | 245 => 230 | 287 => 233 | 279 => 234 | 280 => 235 | 281 => 236 | 282 => 237 | 321 => 242 | 322 => 243 | 316 => 244 | 171 => 246 | 205 => 245 | 243 => 251 | 246 => 231 | 283 => 238 | 284 => 239 | 285 => 240 | 286 => 241 | 129 => 149 | 317 => 247 | 318 => 248 | 319 => 249 | 320 => 250 | 337 => 252 | 338 => 253 | n => n, fun | 9 => 9 | 3 => 3 | 2 => 2 | 75 => 161 | 85 => 316 | 4 => 4 | 167 => 326 | 5 => 5 | 53 => 223 | 175 => 327 | 46 => 166 | 168 => 329 | 37 => 155 | 0 => 0 | 210 => 340 | 21 => 21 | 127 => 198 | 145 => 348 | 143 => 346 | 171 => 333 | 173 => 335 | 212 => 344 | 51 => 119 | 20 => 20 | 213 => 345 | 232 => 349 | 233 => 350 | 80 => 164 | n => n, fun | 15 => 3 | 16 => 4 | 17 => 5 | 18 => 6 | 19 => 7 | n => n⟩
theorem Tryz.lays174 : Go.Proofs.LaysC.n174 Tryz.prog Tryz.lays174_ren := {
  mixed := by kernel_rfl
  f129 := Tryz.func149.trans (congrArg some (by kernel_rfl))
  f171 := Tryz.func246.trans (congrArg some (by kernel_rfl))
  f174 := Tryz.func222.trans (congrArg some (by kernel_rfl))
  f205 := Tryz.func245.trans (congrArg some (by kernel_rfl))
  f243 := Tryz.func251.trans (congrArg some (by kernel_rfl))
  f245 := Tryz.func230.trans (congrArg some (by kernel_rfl))
  f246 := Tryz.func231.trans (congrArg some (by kernel_rfl))
  f247 := Tryz.func229.trans (congrArg some (by kernel_rfl))
  f279 := Tryz.func234.trans (congrArg some (by kernel_rfl))
  f280 := Tryz.func235.trans (congrArg some (by kernel_rfl))
  f281 := Tryz.func236.trans (congrArg some (by kernel_rfl))
  f282 := Tryz.func237.trans (congrArg some (by kernel_rfl))
  f283 := Tryz.func238.trans (congrArg some (by kernel_rfl))
  f284 := Tryz.func239.trans (congrArg some (by kernel_rfl))
  f285 := Tryz.func240.trans (congrArg some (by kernel_rfl))
  f286 := Tryz.func241.trans (congrArg some (by kernel_rfl))
  f287 := Tryz.func233.trans (congrArg some (by kernel_rfl))
  f316 := Tryz.func244.trans (congrArg some (by kernel_rfl))
  f317 := Tryz.func247.trans (congrArg some (by kernel_rfl))
  f318 := Tryz.func248.trans (congrArg some (by kernel_rfl))
  f319 := Tryz.func249.trans (congrArg some (by kernel_rfl))
  f320 := Tryz.func250.trans (congrArg some (by kernel_rfl))
  f321 := Tryz.func242.trans (congrArg some (by kernel_rfl))
  f322 := Tryz.func243.trans (congrArg some (by kernel_rfl))
  f337 := Tryz.func252.trans (congrArg some (by kernel_rfl))
  f338 := Tryz.func253.trans (congrArg some (by kernel_rfl))
  t0 := Tryz.underlying0
  a0 := Tryz.isAgg0
  z0 := Tryz.sizeOf0
  v0 := Tryz.zeroValue0
  t2 := Tryz.underlying2
  a2 := Tryz.isAgg2
  z2 := Tryz.sizeOf2
  v2 := Tryz.zeroValue2
  t3 := Tryz.underlying3
  a3 := Tryz.isAgg3
  z3 := Tryz.sizeOf3
  v3 := Tryz.zeroValue3
  t4 := Tryz.underlying4
  a4 := Tryz.isAgg4
  z4 := Tryz.sizeOf4
  v4 := Tryz.zeroValue4
  t5 := Tryz.underlying5
  a5 := Tryz.isAgg5
  z5 := Tryz.sizeOf5
  v5 := Tryz.zeroValue5
  t9 := Tryz.underlying9
  a9 := Tryz.isAgg9
  z9 := Tryz.sizeOf9
  v9 := Tryz.zeroValue9
  t20 := Tryz.underlying20
  a20 := Tryz.isAgg20
  z20 := Tryz.sizeOf20
  v20 := Tryz.zeroValue20
  t21 := Tryz.underlying21
  a21 := Tryz.isAgg21
  z21 := Tryz.sizeOf21
  v21 := Tryz.zeroValue21
  t37 := Tryz.underlying155
  a37 := Tryz.isAgg155
  z37 := Tryz.sizeOf155
  v37 := Tryz.zeroValue155
  t46 := Tryz.underlying166
  a46 := Tryz.isAgg166
  z46 := Tryz.sizeOf166
  v46 := Tryz.zeroValue166
  t51 := Tryz.underlying119
  a51 := Tryz.isAgg119
  z51 := Tryz.sizeOf119
  v51 := Tryz.zeroValue119
  t53 := Tryz.underlying223
  a53 := Tryz.isAgg223
  z53 := Tryz.sizeOf223
  v53 := Tryz.zeroValue223
  t75 := Tryz.underlying161
  a75 := Tryz.isAgg161
  z75 := Tryz.sizeOf161
  v75 := Tryz.zeroValue161
  t85 := Tryz.underlying316
  a85 := Tryz.isAgg316
  z85 := Tryz.sizeOf316
  v85 := Tryz.zeroValue316
  t127 := Tryz.underlying198
  a127 := Tryz.isAgg198
  z127 := Tryz.sizeOf198
  v127 := Tryz.zeroValue198
  t143 := Tryz.underlying346
  a143 := Tryz.isAgg346
  z143 := Tryz.sizeOf346
  v143 := Tryz.zeroValue346
  t145 := Tryz.underlying348
  a145 := Tryz.isAgg348
  z145 := Tryz.sizeOf348
  v145 := Tryz.zeroValue348
  t167 := Tryz.underlying326
  a167 := Tryz.isAgg326
  z167 := Tryz.sizeOf326
  v167 := Tryz.zeroValue326
  t168 := Tryz.underlying329
  a168 := Tryz.isAgg329
  z168 := Tryz.sizeOf329
  v168 := Tryz.zeroValue329
  t171 := Tryz.underlying333
  a171 := Tryz.isAgg333
  z171 := Tryz.sizeOf333
  v171 := Tryz.zeroValue333
  t173 := Tryz.underlying335
  a173 := Tryz.isAgg335
  z173 := Tryz.sizeOf335
  v173 := Tryz.zeroValue335
  t175 := Tryz.underlying327
  a175 := Tryz.isAgg327
  z175 := Tryz.sizeOf327
  v175 := Tryz.zeroValue327
  t210 := Tryz.underlying340
  a210 := Tryz.isAgg340
  z210 := Tryz.sizeOf340
  v210 := Tryz.zeroValue340
  t212 := Tryz.underlying344
  a212 := Tryz.isAgg344
  z212 := Tryz.sizeOf344
  v212 := Tryz.zeroValue344
  t213 := Tryz.underlying345
  a213 := Tryz.isAgg345
  z213 := Tryz.sizeOf345
  t232 := Tryz.underlying349
  a232 := Tryz.isAgg349
  z232 := Tryz.sizeOf349
  v232 := Tryz.zeroValue349
  t233 := Tryz.underlying350
  a233 := Tryz.isAgg350
  z233 := Tryz.sizeOf350
  v233 := Tryz.zeroValue350
  g15 := by kernel_rfl
  g16 := by kernel_rfl
  g17 := by kernel_rfl
  g18 := by kernel_rfl
  g19 := by kernel_rfl
  t80 := Tryz.underlying164
  a80 := Tryz.isAgg164
  z80 := Tryz.sizeOf164
  v80 := Tryz.zeroValue164
  i0 := by kernel_rfl
  i2 := by kernel_rfl
  i3 := by kernel_rfl
  i4 := by kernel_rfl
  i5 := by kernel_rfl
  i9 := by kernel_rfl
  i20 := by kernel_rfl
  i21 := by kernel_rfl
  i37 := by kernel_rfl
  i46 := by kernel_rfl
  i51 := by kernel_rfl
  i53 := by kernel_rfl
  i75 := by kernel_rfl
  i80 := by kernel_rfl
  i85 := by kernel_rfl
  i127 := by kernel_rfl
  i143 := by kernel_rfl
  i145 := by kernel_rfl
  i167 := by kernel_rfl
  i168 := by kernel_rfl
  i171 := by kernel_rfl
  i173 := by kernel_rfl
  i175 := by kernel_rfl
  i210 := by kernel_rfl
  i212 := by kernel_rfl
  i232 := by kernel_rfl
  i233 := by kernel_rfl
  m15 := by kernel_rfl
  m16 := by kernel_rfl
  m17 := by kernel_rfl
  m18 := by kernel_rfl
  m19 := by kernel_rfl
  c0 := by kernel_rfl
  c2 := by kernel_rfl
  c3 := by kernel_rfl
  c4 := by kernel_rfl
  c5 := by kernel_rfl
  c9 := by kernel_rfl
  c20 := by kernel_rfl
  c21 := by kernel_rfl
  c37 := by kernel_rfl
  c46 := by kernel_rfl
  c51 := by kernel_rfl
  c53 := by kernel_rfl
  c75 := by kernel_rfl
  c80 := by kernel_rfl
  c85 := by kernel_rfl
  c127 := by kernel_rfl
  c143 := by kernel_rfl
  c145 := by kernel_rfl
  c167 := by kernel_rfl
  c168 := by kernel_rfl
  c171 := by kernel_rfl
  c173 := by kernel_rfl
  c175 := by kernel_rfl
  c210 := by kernel_rfl
  c212 := by kernel_rfl
  c213 := by kernel_rfl
  c232 := by kernel_rfl
  c233 := by kernel_rfl }
def Tryz.lays173_ren : Go.Shelf.Ren := ⟨fun | 173 => 223 | 246 => 231 | 283 => 238 | 284 => 239 | 285 => 240 | 286 => 241 | 129 => 149 | 317 => 247 | 318 => 248 | 319 => 249 | 320 => 250 | 337 => 252 | 338 => 253 | n => n, fun | 2 => 2 | 3 => 3 | 9 => 9 | 4 => 4 | 171 => 333 | 0 => 0 | 53 => 223 | 37 => 155 | 5 => 5 | 173 => 335 | 212 => 344 | 51 => 119 | 20 => 20 | 213 => 345 | 46 => 166 | 232 => 349 | 233 => 350 | n => n, fun | 17 => 5 | 18 => 6 | 19 => 7 | n => n⟩
theorem Tryz.lays173 : Go.Proofs.LaysM.n173 Tryz.prog Tryz.lays173_ren := {
  mixed := by kernel_rfl
  f129 := Tryz.func149.trans (congrArg some (by kernel_rfl))
  f173 := Tryz.func223.trans (congrArg some (by kernel_rfl))
  f246 := Tryz.func231.trans (congrArg some (by kernel_rfl))
  f283 := Tryz.func238.trans (congrArg some (by kernel_rfl))
  f284 := Tryz.func239.trans (congrArg some (by kernel_rfl))
  f285 := Tryz.func240.trans (congrArg some (by kernel_rfl))
  f286 := Tryz.func241.trans (congrArg some (by kernel_rfl))
  f317 := Tryz.func247.trans (congrArg some (by kernel_rfl))
  f318 := Tryz.func248.trans (congrArg some (by kernel_rfl))
  f319 := Tryz.func249.trans (congrArg some (by kernel_rfl))
  f320 := Tryz.func250.trans (congrArg some (by kernel_rfl))
  f337 := Tryz.func252.trans (congrArg some (by kernel_rfl))
  f338 := Tryz.func253.trans (congrArg some (by kernel_rfl))
  t0 := Tryz.underlying0
  a0 := Tryz.isAgg0
  z0 := Tryz.sizeOf0
  v0 := Tryz.zeroValue0
  t2 := Tryz.underlying2
  a2 := Tryz.isAgg2
  z2 := Tryz.sizeOf2
  v2 := Tryz.zeroValue2
  t3 := Tryz.underlying3
  a3 := Tryz.isAgg3
  z3 := Tryz.sizeOf3
  v3 := Tryz.zeroValue3
  t4 := Tryz.underlying4
  a4 := Tryz.isAgg4
  z4 := Tryz.sizeOf4
  v4 := Tryz.zeroValue4
  t5 := Tryz.underlying5
  a5 := Tryz.isAgg5
  z5 := Tryz.sizeOf5
  v5 := Tryz.zeroValue5
  t9 := Tryz.underlying9
  a9 := Tryz.isAgg9
  z9 := Tryz.sizeOf9
  v9 := Tryz.zeroValue9
  t20 := Tryz.underlying20
  a20 := Tryz.isAgg20
  z20 := Tryz.sizeOf20
  v20 := Tryz.zeroValue20
  t37 := Tryz.underlying155
  a37 := Tryz.isAgg155
  z37 := Tryz.sizeOf155
  v37 := Tryz.zeroValue155
  t46 := Tryz.underlying166
  a46 := Tryz.isAgg166
  z46 := Tryz.sizeOf166
  v46 := Tryz.zeroValue166
  t51 := Tryz.underlying119
  a51 := Tryz.isAgg119
  z51 := Tryz.sizeOf119
  v51 := Tryz.zeroValue119
  t53 := Tryz.underlying223
  a53 := Tryz.isAgg223
  z53 := Tryz.sizeOf223
  v53 := Tryz.zeroValue223
  t171 := Tryz.underlying333
  a171 := Tryz.isAgg333
  z171 := Tryz.sizeOf333
  v171 := Tryz.zeroValue333
  t173 := Tryz.underlying335
  a173 := Tryz.isAgg335
  z173 := Tryz.sizeOf335
  v173 := Tryz.zeroValue335
  t212 := Tryz.underlying344
  a212 := Tryz.isAgg344
  z212 := Tryz.sizeOf344
  v212 := Tryz.zeroValue344
  t213 := Tryz.underlying345
  a213 := Tryz.isAgg345
  z213 := Tryz.sizeOf345
  t232 := Tryz.underlying349
  a232 := Tryz.isAgg349
  z232 := Tryz.sizeOf349
  v232 := Tryz.zeroValue349
  t233 := Tryz.underlying350
  a233 := Tryz.isAgg350
  z233 := Tryz.sizeOf350
  v233 := Tryz.zeroValue350
  g17 := by kernel_rfl
  g18 := by kernel_rfl
  g19 := by kernel_rfl
  i0 := by kernel_rfl
  i2 := by kernel_rfl
  i3 := by kernel_rfl
  i4 := by kernel_rfl
  i5 := by kernel_rfl
  i9 := by kernel_rfl
  i20 := by kernel_rfl
  i37 := by kernel_rfl
  i46 := by kernel_rfl
  i51 := by kernel_rfl
  i53 := by kernel_rfl
  i171 := by kernel_rfl
  i173 := by kernel_rfl
  i212 := by kernel_rfl
  i232 := by kernel_rfl
  i233 := by kernel_rfl
  m17 := by kernel_rfl
  m18 := by kernel_rfl
  m19 := by kernel_rfl }
end Go.Proofs.YtaagllbcmgnbnaaGreatDoor
/- What the library's own answers, and the variables that it reads. -/
namespace Go.Proofs.YtaagllbcmgnbnaaGreatDoor
open Go.RowKit Go.Shelf
set_option linter.unusedVariables false
set_option maxRecDepth 100000

/-- The table of words as a value. -/
def tabV : Array Value := (tab.map fun l => Value.string (ba l)).toArray
theorem tabV_at (k : Nat) (h : k < 31) : tabV[k]? = some (.string (ba (tab.getD k []))) := by
  have hk : k < tab.length := h
  simp [tabV, List.getElem?_eq_getElem hk]
theorem tabV_size : tabV.size = 31 := rfl
/-- The variables at package level, as the program's text lays them. -/
structure Env (w : World) : Prop where
  table : ∃ t fr, w.heap[2]? = some (.cells tabV t fr)
  syn : ∃ ev, w.cell? ⟨Tryz.lays174_ren.g 15, 0, none⟩ = some ev ∧ (ev = .nilIface ∨ ∃ te pe, ev = .iface te pe)
  rng : ∃ ev, w.cell? ⟨Tryz.lays174_ren.g 16, 0, none⟩ = some ev ∧ (ev = .nilIface ∨ ∃ te pe, ev = .iface te pe)
  pow : Lib.TabIs Tryz.prog w "internal/strconv.uint64pow10" .u64 Lib.pow10Tab
  size : 8 ≤ w.heap.size
theorem gPow : Tryz.prog.globalNamed "internal/strconv.uint64pow10" = some 5 := by kernel_rfl
theorem Env.of_blocks {w w' : World} (h : Env w) (hb : ∀ k, k < 8 → w'.heap[k]? = w.heap[k]?) (hs : w.heap.size ≤ w'.heap.size) : Env w' := by
  refine ⟨?_, ?_, ?_, ?_, Nat.le_trans h.size hs⟩
  · rw [hb 2 (by omega)]; exact h.table
  · obtain ⟨ev, h1, h2⟩ := h.syn
    exact ⟨ev, by rw [World.cell?_of_block (a := ⟨Tryz.lays174_ren.g 15, 0, none⟩) (hb 3 (by omega))]; exact h1, h2⟩
  · obtain ⟨ev, h1, h2⟩ := h.rng
    exact ⟨ev, by rw [World.cell?_of_block (a := ⟨Tryz.lays174_ren.g 16, 0, none⟩) (hb 4 (by omega))]; exact h1, h2⟩
  · have := h.pow
    unfold Lib.TabIs World.var? at this ⊢
    rw [gPow] at this ⊢
    simp only [Option.bind_some, hb 5 (by omega)] at this ⊢
    exact this
theorem Env.words {w : World} (h : Env w) (k : Nat) (hk : k < 31) : w.cell? ⟨2, k, none⟩ = some (.string (ba (tab.getD k []))) := by
  obtain ⟨t, fr, h⟩ := h.table
  simp only [World.cell?, h]
  simpa using tabV_at k hk
theorem Env.below {w w' : World} {B : Nat} (h : Env w) (hb : Below B w w') (h7 : 8 ≤ B) : Env w' := h.of_blocks (fun k hk => hb.block k (by omega)) hb.size
theorem Env.low {w w' : World} (h : Env w) (hb : Below w.heap.size w w') : Env w' := h.below hb h.size
theorem Env.grown {w w' : World} {R : Nat} (h : Env w) (hg : w.grownBy w' (some R)) (hR : 8 ≤ R) : Env w' := h.of_blocks (fun k hk => hg.block k (by have := h.size; omega) (fun e => by injection e; omega)) hg.size
theorem Env.drewN {w : World} (h : Env w) (q : Nat) : Env (w.drewN q) := h.of_blocks (fun _ _ => rfl) (Nat.le_refl _)

/-! ### isBlank, FieldsFunc -/
theorem blank_any (r : Nat) (w : World) (hr : r ≤ 1114111) : Calls Tryz.prog 153 #[.int .i32 r] w fun e w' => e = .returned (.bool (blankR r)) ∧ w' = w := by
  unfold blankR
  by_cases h1 : r = 32
  · subst h1
    go_enter Tryz.func153, Tryz.ntmps153
    go_wp2
    go_ret
    exact ⟨rfl, rfl⟩
  · have h1' : ((r : Int) == 32) = false := beq_eq_false_iff_ne.2 (by omega)
    by_cases h2 : r = 10
    · subst h2
      go_enter Tryz.func153, Tryz.ntmps153
      go_wp2
      go_ret
      exact ⟨rfl, rfl⟩
    · have h2' : ((r : Int) == 10) = false := beq_eq_false_iff_ne.2 (by omega)
      have e1 : (r == 32) = false := beq_eq_false_iff_ne.2 h1
      have e2 : (r == 10) = false := beq_eq_false_iff_ne.2 h2
      have e3 : (r == 32 || r == 10) = false := by rw [e1, e2]; rfl
      rw [e3]
      go_enter Tryz.func153, Tryz.ntmps153
      go_wp2
      go_ret
      exact ⟨rfl, rfl⟩
theorem Tryz.info68 : (Tryz.prog.info? (Tryz.lays229_ren.t 154)).map (fun i => (i.zero, i.size, i.bytes)) = some (some (.agg #[.int .i64 0, .int .i64 0]), 2, 16) := by kernel_rfl
theorem Tryz.info9 : (Tryz.prog.info? (Tryz.lays229_ren.t 9)).map (fun i => (i.zero, i.size, i.bytes)) = some (some (.string ⟨#[]⟩), 1, 16) := by kernel_rfl
theorem blank_pays (w : World) : PredAtRunes Tryz.prog 153 #[] blankR w := by
  intro W x hx hb
  exact (blank_any x W hx).mono fun e w' ⟨he, hw⟩ => ⟨he, 0, hw⟩
theorem fields_any (s : ByteArray) (w : World) (hs : s.size ≤ 512) :
    Calls Tryz.prog 152 #[.string s, .func (.func 153) #[] #[]] w fun e w' => ∃ v, e = .returned v ∧ OwnS w' w.heap.size v (splitB s) ∧ Below w.heap.size w w' := by
  have h := Any.strings_FieldsFunc_runes Tryz.lays229 153 #[] (enters_of Tryz.func153 (by kernel_rfl) rfl) blankR s w (by omega) (blank_pays w) Tryz.info68 Tryz.info9
  rw [fields_split] at h
  refine h.mono fun e w' ⟨A, he, hA, ho, hb⟩ => ⟨_, he, ?_, hb⟩
  exact ho
end Go.Proofs.YtaagllbcmgnbnaaGreatDoor
/- opOf: which op a word is. -/
namespace Go.Proofs.YtaagllbcmgnbnaaGreatDoor
open Go.RowKit Go.Shelf
set_option linter.unusedVariables false
set_option maxRecDepth 100000

/-! ### The library's numbers -/
theorem parse_ok (s : ByteArray) (w : World) (hs : s.size ≤ 512) (v : Int) (h : Lib.parseIntB 64 (L s) = .ok v) :
    Calls Tryz.prog 222 #[.string s, .int .i64 10, .int .i64 64] w fun e w' => e = .returned (.tuple #[.int .i64 v, .nilIface]) ∧ Below w.heap.size w w' := by
  have hc := Any.strconv_ParseInt_10_at64_ok Tryz.lays174 s (by omega) v h w
  refine hc.mono fun e w' ⟨he, hw⟩ => ⟨he, ?_⟩
  rcases hw with rfl | ⟨t, rfl⟩
  · exact Below.refl _ _
  · exact Lib.bytesWorld_below _ _ _
theorem parse_no (s : ByteArray) (w : World) (hs : s.size ≤ 512) (hE : Env w) (h : ∀ v, Lib.parseIntB 64 (L s) ≠ .ok v) :
    Calls Tryz.prog 222 #[.string s, .int .i64 10, .int .i64 64] w fun e w' => (∃ z T p, e = .returned (.tuple #[.int .i64 z, .iface T (.pointer (some p))])) ∧ Below w.heap.size w w' := by
  cases hp : Lib.parseIntB 64 (L s) with
  | ok v => exact absurd hp (h v)
  | «syntax» =>
    obtain ⟨ev, h1, h2⟩ := hE.syn
    have hc := Any.strconv_ParseInt_10_at64_syntax Tryz.lays174 s (by omega) hp ev w h1 h2
    exact hc.mono fun e w' ⟨N, he, _, _, hb⟩ => ⟨⟨_, _, _, he⟩, hb⟩
  | range =>
    obtain ⟨ev, h1, h2⟩ := hE.rng
    have hc := Any.strconv_ParseInt_10_at64_range Tryz.lays174 s (by omega) hp ev w h1 h2
    exact hc.mono fun e w' ⟨N, he, _, _, hb⟩ => ⟨⟨_, _, _, he⟩, hb⟩
theorem format_any (n : Int) (w : World) (h0 : -9223372036854775808 ≤ n) (h1 : n ≤ 9223372036854775807) (hE : Env w) :
    Calls Tryz.prog 223 #[.int .i64 n, .int .i64 10] w fun e w' => e = .returned (.string (ba (Lib.itoa n))) ∧ Below w.heap.size w w' := by
  have hc := Any.strconv_FormatInt_10 Tryz.lays173 n h0 h1 w hE.pow
  refine hc.mono fun e w' ⟨he, k, os, hw⟩ => ⟨he, ?_⟩
  subst hw
  exact ⟨rfl, rfl, rfl, by simp [Go.Sort.grow], fun j hj => Go.Sort.heap_grow_old (w.drewN k) os hj⟩

/-! ### An op's box -/
/-! ### hasBlock -/
end Go.Proofs.YtaagllbcmgnbnaaGreatDoor
/- opOf: which op a word is. -/
namespace Go.Proofs.YtaagllbcmgnbnaaGreatDoor
open Go.RowKit Go.Shelf
set_option linter.unusedVariables false
set_option maxRecDepth 100000

theorem Tryz.size31 : (Tryz.prog.info? 315).map (·.size) = some tabV.size := by rw [tabV_size]; kernel_rfl
theorem run_tab (k : Nat) (h : k < 31) (W : World) : (Instr.index 315 (.agg tabV) (.int .i64 (k : Int))).run Tryz.prog W = .ok (.string (ba (tab.getD k []))) W := by
  have h1 := tabV_at k h
  have hn : (0 ≤ (k : Int) ∧ (k : Int) < 31) := by omega
  simp [Instr.index, run_underlying Tryz.underlying315, asIntOf, hn, h1, go_sem]
  omega
theorem seq_true {x s : ByteArray} (h : x = s) : (x.toList == s.toList) = true := by subst h; simp
theorem seq_false {x s : ByteArray} (h : x ≠ s) : (x.toList == s.toList) = false := by
  rw [ByteArray.toList_eq, ByteArray.toList_eq]
  simp
  intro hc
  exact h (ba_ext (by rw [hc]))
theorem lst_true {l : List UInt8} {s : ByteArray} (h : l = L s) : (l == s.toList) = true := by rw [ByteArray.toList_eq]; simpa using h
theorem lst_false {l : List UInt8} {s : ByteArray} (h : l ≠ L s) : (l == s.toList) = false := by rw [ByteArray.toList_eq]; simpa using h
/-- What opOf tells. -/
def OpR (o : Option (Int × Int)) (e : Ending) : Prop := match o with
  | some (k, n) => e = .returned (.tuple #[.agg #[.int .i64 k, .int .i64 n, .slice none 0 0], .bool true])
  | none => e = .returned (.tuple #[.agg #[.int .i64 0, .int .i64 0, .slice none 0 0], .bool false])
theorem kind_found {l : List UInt8} {k : Nat} (hk : k < 31) (h : tab.getD k [] = l) (hn : ∀ j, j < k → tab.getD j [] ≠ l) : kindOf l = some k := by
  unfold kindOf
  have hl : tab.length = 31 := rfl
  have hg : ∀ j (hj : j < tab.length), tab[j] = tab.getD j [] := fun j hj => by rw [List.getD_eq_getElem?_getD, List.getElem?_eq_getElem hj]; rfl
  refine List.findIdx?_eq_some_iff_getElem.2 ⟨by omega, by rw [hg]; simpa using h, fun j hj => ?_⟩
  rw [hg]
  simpa using hn j hj
theorem kind_none {l : List UInt8} (hn : ∀ j, j < 31 → tab.getD j [] ≠ l) : kindOf l = none := by
  unfold kindOf
  refine List.findIdx?_eq_none_iff.2 fun x hx => ?_
  obtain ⟨j, hj⟩ := List.getElem?_of_mem hx
  have hl : j < 31 := (List.getElem?_eq_some_iff.1 hj).1
  have := hn j hl
  rw [List.getD_eq_getElem?_getD, hj] at this
  simpa using this
theorem opR_kind {l : List UInt8} {k : Nat} (h : kindOf l = some k) : OpR (opW l) (.returned (.tuple #[.agg #[.int .i64 (k : Int), .int .i64 0, .slice none 0 0], .bool true])) := by
  unfold opW; rw [h]; rfl
theorem opR_num {l : List UInt8} {n : Int} (h : kindOf l = none) (hn : numOf l = some n) : OpR (opW l) (.returned (.tuple #[.agg #[.int .i64 1, .int .i64 n, .slice none 0 0], .bool true])) := by
  unfold opW; rw [h, hn]; rfl
theorem opR_none {l : List UInt8} (h : kindOf l = none) (hn : numOf l = none) : OpR (opW l) (.returned (.tuple #[.agg #[.int .i64 0, .int .i64 0, .slice none 0 0], .bool false])) := by
  unfold opW; rw [h, hn]; rfl
set_option maxHeartbeats 400000 in
theorem opOf_any (s : ByteArray) (w : World) (hs : s.size ≤ 512) (hne : L s ≠ []) (hE : Env w) :
    Calls Tryz.prog 206 #[.string s] w fun e w' => OpR (opW (L s)) e ∧ Below w.heap.size w w' := by
  have hE0 : Env (w.alloc (.cells #[.int .i64 0, .int .i64 0, .slice none 0 0] 171)) := hE.low ((Below.refl _ _).alloc (Nat.le_refl _) _)
  obtain ⟨tt, fr, hg⟩ := hE0.table
  have HG := hidO hg
  clear hg
  go_enter Tryz.func206, Tryz.ntmps206
  go_upto_region 1 with fail
  go_cut [8, 9] (fun s8 s9 wx => s8 = .agg tabV ∧ s9 = .int .i64 0 ∧ wx = w.alloc (.cells #[.int .i64 0, .int .i64 0, .slice none 0 0] 171))
  case first =>
    go_wp2_with (refine wpList_load_row rfl 315 (.global 2) rfl 2 rfl tt tabV fr _ HG.out Tryz.underlying315 rfl Tryz.size31 ?_)
    go_meet
    exact ⟨rfl, rfl, rfl⟩
  case rest =>
    obtain ⟨rfl, rfl, rfl⟩ := hcut
    have hB := BlkO.new w 0 0 (.slice none 0 0)
    have HB := hidO hB
    obtain ⟨c0, c1, c2⟩ := hB.cells
    obtain ⟨f0, f1, f2⟩ := hB.free
    clear hB HG
    go_wp2
    go_loop [9] (fun i => ∃ k : Nat, k ≤ 31 ∧ i = .int .i64 k ∧ Hid (∀ j, j < k → tab.getD j [] ≠ L s)) (fun i => 31 - (intOf i).toNat)
    case atStart => exact ⟨0, by omega, rfl, fun j hj => by omega⟩
    case round =>
      obtain ⟨k, hk, rfl, HK⟩ := hrel
      by_cases hlt : k < 31
      · have hi := run_tab k hlt
        have hk0 : (0 : Int) ≤ k := by omega
        have hk1 : (k : Int) < 31 := by omega
        generalize hx : ba (tab.getD k []) = x at hi
        have HX := hidO hx
        clear hx
        by_cases he : x = s
        · have hbe := seq_true he
          have HF := hidO (opR_kind (kind_found hlt (by have := HX.out; rw [he] at this; rw [← this, L_ba]) HK.out))
          clear he
          go_wp2
          have hB2 := BlkO.new w (k : Int) 0 (.slice none 0 0)
          exact bodyPost_ret (hB2.ret (t := 2) (u := 3) rfl rfl) rfl ⟨HF.out, (Below.refl _ _).alloc (Nat.le_refl _) _⟩
        · have hbe := seq_false he
          have HN : Hid (tab.getD k [] ≠ L s) := fun hc => he (by rw [← HX.out, hc, ba_L])
          clear he
          go_wp2
          go_round
          case rel => exact ⟨k + 1, by omega, by go_num, fun j hj => by
            by_cases hjk : j = k
            · subst hjk; exact HN.out
            · exact HK.out j (by omega)⟩
          case measure => simp [intOf]; omega
      · obtain rfl : k = 31 := by omega
        have hkn := kind_none HK.out
        have hb0 : Below w.heap.size w (w.alloc (.cells #[.int .i64 0, .int .i64 0, .slice none 0 0] 171)) := (Below.refl _ _).alloc (Nat.le_refl _) _
        by_cases hp : ∃ v, Lib.parseIntB 64 (L s) = .ok v
        · obtain ⟨v, hv⟩ := hp
          have hbd := Lib.parseIntB_bounds hv
          have hv0 : -9223372036854775808 ≤ v := by have := hbd.1; rw [show ((2 ^ (64 - 1) : Nat) : Int) = 9223372036854775808 from rfl] at this; omega
          have hv1 : v ≤ 9223372036854775807 := by have := hbd.2; rw [show ((2 ^ (64 - 1) : Nat) : Int) = 9223372036854775808 from rfl] at this; omega
          clear hbd
          have Hc := hidO (fun W => parse_ok s W hs v hv)
          by_cases hi : Lib.itoa v = L s
          · have HF := hidO (opR_num hkn (show numOf (L s) = some v by unfold numOf; rw [hv]; simp [hi]))
            have hbe := lst_true hi
            clear hv hkn hi HK
            go_wp2_with (go_at_call 222; refine (Hc.out _).mono ?_; rintro e w1 ⟨rfl, hb1⟩)
            have hE1 := hE0.low hb1
            refine (format_any v w1 hv0 hv1 hE1).mono ?_
            rintro e w2 ⟨rfl, hb2⟩
            have hB2 := ((BlkO.new w 0 0 (.slice none 0 0)).step hb1).step hb2
            have hw2 : Below w.heap.size w w2 := (hb0.trans (hb1.mono (by simp))).trans (hb2.mono (by have := hb1.size; simp at this; omega))
            obtain ⟨d0, d1, d2⟩ := hB2.cells
            obtain ⟨g0, g1, g2⟩ := hB2.free
            have HB2 := hidO hB2
            have HW2 := hidO hw2
            clear hb0 hb1 hb2 hE0 hE1 hB2 hw2 c0 c1 c2 f0 f1 f2
            go_wp2
            exact bodyPost_ret ((HB2.out.put 1 v (.slice none 0 0)).ret (t := 2) (u := 3) rfl rfl) rfl ⟨HF.out, bel_put HW2.out (Nat.le_refl _) _ _ _⟩
          · have HF := hidO (opR_none hkn (show numOf (L s) = none by unfold numOf; rw [hv]; simp [hi]))
            have hbe := lst_false hi
            clear hv hkn hi HK
            go_wp2_with (go_at_call 222; refine (Hc.out _).mono ?_; rintro e w1 ⟨rfl, hb1⟩)
            have hE1 := hE0.low hb1
            refine (format_any v w1 hv0 hv1 hE1).mono ?_
            rintro e w2 ⟨rfl, hb2⟩
            have hB2 := ((BlkO.new w 0 0 (.slice none 0 0)).step hb1).step hb2
            have hw2 : Below w.heap.size w w2 := (hb0.trans (hb1.mono (by simp))).trans (hb2.mono (by have := hb1.size; simp at this; omega))
            obtain ⟨d0, d1, d2⟩ := hB2.cells
            obtain ⟨g0, g1, g2⟩ := hB2.free
            have HB2 := hidO hB2
            have HW2 := hidO hw2
            clear hb0 hb1 hb2 hE0 hE1 hB2 hw2 c0 c1 c2 f0 f1 f2
            go_wp2
            exact bodyPost_ret ((HB2.out.put 0 0 (.slice none 0 0)).ret (t := 2) (u := 3) rfl rfl) rfl ⟨HF.out, bel_put HW2.out (Nat.le_refl _) _ _ _⟩
        · have hp' : ∀ v, Lib.parseIntB 64 (L s) ≠ .ok v := fun v hv => hp ⟨v, hv⟩
          have HF := hidO (opR_none hkn (show numOf (L s) = none by
            unfold numOf
            cases hq : Lib.parseIntB 64 (L s) with
            | ok v => exact absurd hq (hp' v)
            | «syntax» => rfl
            | range => rfl))
          have Hc := hidO (fun W hW => parse_no s W hs hW hp')
          clear hp hp' hkn HK
          go_wp2_with (go_at_call 222; refine (Hc.out _ hE0).mono ?_)
          rintro e w1 z T pp rfl hb1
          have hB2 := (BlkO.new w 0 0 (.slice none 0 0)).step (hb1.mono (by simp))
          have hw2 : Below w.heap.size w w1 := hb0.trans (hb1.mono (by simp))
          obtain ⟨d0, d1, d2⟩ := hB2.cells
          obtain ⟨g0, g1, g2⟩ := hB2.free
          have HB2 := hidO hB2
          have HW2 := hidO hw2
          clear hb0 hb1 hE0 hB2 hw2 c0 c1 c2 f0 f1 f2
          go_wp2
          exact bodyPost_ret ((HB2.out.put 0 0 (.slice none 0 0)).ret (t := 2) (u := 3) rfl rfl) rfl ⟨HF.out, bel_put HW2.out (Nat.le_refl _) _ _ _⟩
end Go.Proofs.YtaagllbcmgnbnaaGreatDoor
/- A reader of words: next. -/
namespace Go.Proofs.YtaagllbcmgnbnaaGreatDoor
open Go.RowKit Go.Shelf
set_option linter.unusedVariables false
set_option maxRecDepth 100000

/-- At block R a reader of the words ws (which lie in block G), behind m ops. -/
def RB (w : World) (R G : Nat) (ws : List (List UInt8)) (m : Nat) : Prop :=
  G ≠ R ∧ G < w.heap.size ∧ ∃ a cap o, w.heap[R]? = some (.cells #[.slice a ws.length cap, .int .i64 m] 237 (0, 0)) ∧ ws.length ≤ cap ∧ (ws = [] ∨ a = some ⟨G, o, none⟩) ∧ StrsAt w G o (ws.map ba)
theorem RB.lt {w : World} {R G m : Nat} {ws : List (List UInt8)} (h : RB w R G ws m) : R < w.heap.size := by
  obtain ⟨_, _, a, cap, o, hb, _⟩ := h
  exact (Array.getElem?_eq_some_iff.1 hb).1
/-- A reader stays where its two blocks do. -/
theorem RB.keep {w w' : World} {R G m : Nat} {ws : List (List UInt8)} (h : RB w R G ws m) (hR : w'.heap[R]? = w.heap[R]?) (hG : w'.heap[G]? = w.heap[G]?) (hs : w.heap.size ≤ w'.heap.size) : RB w' R G ws m := by
  obtain ⟨h1, h2, a, cap, o, hb, hc, ha, hst⟩ := h
  refine ⟨h1, by omega, a, cap, o, by rw [hR]; exact hb, hc, ha, fun i x hx => ?_⟩
  rw [World.cell?_of_block (a := ⟨G, o + i, none⟩) hG]
  exact hst i x hx
theorem RB.below {w w' : World} {R G m : Nat} {ws : List (List UInt8)} (h : RB w R G ws m) (hb : Below w.heap.size w w') : RB w' R G ws m := h.keep (hb.block _ h.lt) (hb.block _ h.2.1) hb.size
theorem next_nil (R G m : Nat) (w : World) (h : RB w R G [] m) :
    Calls Tryz.prog 177 #[.pointer (some ⟨R, 0, none⟩)] w fun e w' => e = .returned (.tuple #[.string ⟨#[]⟩, .bool false]) ∧ w' = w := by
  obtain ⟨_, _, a, cap, o, hb, _⟩ := h
  have c0 : w.cell? ⟨R, 0, none⟩ = some (.slice a 0 cap) := by simp [World.cell?, hb]
  clear hb
  go_enter Tryz.func177, Tryz.ntmps177
  go_wp2
  go_ret2
  exact ⟨rfl, rfl⟩
theorem rb_step {w : World} {R G m o cap cap' : Nat} {x : List UInt8} {ws : List (List UInt8)} {a a' : Option Addr} (hGR : G ≠ R) (hG : G < w.heap.size) (hb : w.heap[R]? = some (.cells #[.slice a (x :: ws).length cap, .int .i64 m] 237 (0, 0)))
    (hst : StrsAt w G o ((x :: ws).map ba)) (ha : ws = [] ∨ a' = some ⟨G, o + 1, none⟩) (hc : ws.length ≤ cap') :
    w.grownBy (w.setCell ⟨R, 0, none⟩ (.slice a' ws.length cap')).drew (some R) ∧ RB (w.setCell ⟨R, 0, none⟩ (.slice a' ws.length cap')).drew R G ws m := by
  refine ⟨⟨rfl, rfl, rfl, by simp [World.setCell, World.drew], fun k hk hne => Below.heap_setCell _ _ _ _ (fun e => hne (by rw [e]))⟩, hGR, by simpa [World.setCell, World.drew] using hG, a', cap', o + 1, ?_, hc, ha, fun i y hy => ?_⟩
  · show (w.heap.modify _ _)[R]? = _
    rw [Array.getElem?_modify, hb]
    simp
  · have := hst (i + 1) y (by simpa using hy)
    have e : (w.setCell ⟨R, 0, none⟩ (.slice a' ws.length cap')).drew.cell? ⟨G, o + 1 + i, none⟩ = w.cell? ⟨G, o + 1 + i, none⟩ :=
      World.cell?_of_block (a := ⟨G, o + 1 + i, none⟩) (Below.heap_setCell _ _ _ _ hGR)
    rw [e, show o + 1 + i = o + (i + 1) by omega]
    exact this
set_option maxHeartbeats 400000 in
theorem next_cons (R G m : Nat) (x : List UInt8) (ws : List (List UInt8)) (w : World) (h : RB w R G (x :: ws) m) (hl : ws.length ≤ 1000) :
    Calls Tryz.prog 177 #[.pointer (some ⟨R, 0, none⟩)] w fun e w' => e = .returned (.tuple #[.string (ba x), .bool true]) ∧ w.grownBy w' (some R) ∧ RB w' R G ws m := by
  obtain ⟨hGR, hG, a, cap, o, hb, hc, ha, hst⟩ := h
  rcases ha with ha | rfl
  · simp at ha
  have c0 : w.cell? ⟨R, 0, none⟩ = some (.slice (some ⟨G, o, none⟩) (ws.length + 1) cap) := by simp [World.cell?, hb]
  have f0 : w.frozen? ⟨R, 0, none⟩ = false := by simp [World.frozen?, hb]
  have d0 : w.cell? ⟨G, o, none⟩ = some (.string (ba x)) := by have := hst 0 (ba x) rfl; simpa using this
  have HB : Hid (_ = _) := hb
  have HS : Hid (StrsAt w G o ((x :: ws).map ba)) := hst
  simp only [List.length_cons] at hc
  have hn0 : (((ws.length : Int) + 1) == 0) = false := beq_eq_false_iff_ne.2 (by omega)
  have hn1 : (0 : Int) < (ws.length : Int) + 1 := by omega
  clear hb hst
  go_enter Tryz.func177, Tryz.ntmps177
  by_cases hcap : cap = 1
  · have hw0 : ws = [] := List.length_eq_zero_iff.1 (by omega)
    go_wp2
    go_region
    go_wp2
    all_goals
      go_ret2
      subst hw0
      exact ⟨rfl, rb_step (ws := []) (cap' := 0) hGR hG HB.out HS.out (.inl rfl) (Nat.le_refl _)⟩
  · go_wp2
    go_region
    go_wp2
    all_goals
      go_ret2
      exact ⟨rfl, rb_step hGR hG HB.out HS.out (.inr rfl) (by omega)⟩
end Go.Proofs.YtaagllbcmgnbnaaGreatDoor
