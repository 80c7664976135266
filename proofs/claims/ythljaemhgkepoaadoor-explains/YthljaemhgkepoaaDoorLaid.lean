/-
  WHAT THE LISTED PACKAGE-LEVEL VARIABLES GIVE THE WALKS. By the verifier of the loop 'triage'.
-/
import Derived.Test.YthljaemhgkepoaaDoorRows
import Derived.Test.YthljaemhgkepoaaDoorLawA
import Derived.ProofKit
import Derived.LaidMore
import Derived.LaidHandle
import Derived.OpenShut
import Derived.Stop.Joined
import Derived.Stop.LaidErr
namespace Go.Proofs.YthljaemhgkepoaaDoor
open Go.ChangeShapes Go.WideShapes Go.ChangeAt Go.RowKit

theorem Tryd.own : ownKnob Tryd.prog.godebug = none := by kernel_rfl
theorem Tryd.gBroken : Tryd.prog.globalNamed "triage/triage.Broken" = some 0 := by kernel_rfl
theorem Tryd.gType : Tryd.prog.globalNamed "errors.errorType" = some 1 := by kernel_rfl
theorem Tryd.gTraits : Tryd.prog.globalNamed "triage/triage.traits" = some 2 := by kernel_rfl
theorem Tryd.tBroken : (Tryd.prog.globals[0]?).map (·.type) = some 30 := by kernel_rfl
theorem Tryd.tTraits : (Tryd.prog.globals[2]?).map (·.type) = some 136 := by kernel_rfl
theorem Tryd.rt : (Tryd.prog.cutTypes.find? (·.1 == "internal/reflectlite.rtype")).map (·.2) = some 104 := by kernel_rfl
theorem Tryd.oneRow : ((List.range 183).filter fun t => Tryd.prog.rowNamed t [101, 114, 114, 111, 114]) = [30] := by kernel_rfl
theorem Tryd.nTypes : Tryd.prog.types.size = 183 := by kernel_rfl
theorem Tryd.star : "*" ++ "errors.errorString" = "*errors.errorString" := by decide
theorem Tryd.rowES (u : TypeId) (h : Tryd.prog.typeName? 3 u = some "*errors.errorString") : u = 151 :=
  typeName_ptr_named (nm := "errors.errorString") (by rw [Tryd.star]; kernel_rfl) (by kernel_rfl) (by decide) u (by rw [Tryd.star]; exact h)
theorem Tryd.cellsES : Tryd.prog.cellsOf 172 = 1 := by kernel_rfl
theorem Tryd.cellsStr : Tryd.prog.cellsOf 9 = 1 := by kernel_rfl
theorem Tryd.cellsTrait : Tryd.prog.cellsOf 133 = 2 := by kernel_rfl
theorem Tryd.cellsInt : Tryd.prog.cellsOf 3 = 1 := by kernel_rfl

abbrev laid3 : List (String × DataW Unit) := [("errors.errorType", Rows.laid_errors_errorType), ("triage/triage.Broken", Rows.laid_triage_triage_Broken), ("triage/triage.traits", Rows.laid_triage_triage_traits)]

theorem handle_of_laid {W : World} (h : handlesMet Tryd.prog [("errors.errorType", Rows.laid_errors_errorType)] W) : W.cell? ⟨1, 0, none⟩ = some (.iface 104 (.agg #[.pointer (some ⟨3, 30, none⟩)])) := by
  obtain ⟨name, u, ty, e1, e2, e3, e4, e5⟩ := h _ (List.mem_singleton.2 rfl)
  have en : name = [101, 114, 114, 111, 114] := (Option.some.inj e1).symm
  subst en
  obtain rfl := Option.some.inj (Tryd.rt.symm.trans e2)
  have hm : ty ∈ (List.range 183).filter fun t => Tryd.prog.rowNamed t [101, 114, 114, 111, 114] := List.mem_filter.2 ⟨List.mem_range.2 (by rw [← Tryd.nTypes]; exact e3), e4⟩
  rw [Tryd.oneRow] at hm
  obtain rfl := List.mem_singleton.1 hm
  have hh : typeHandle Tryd.prog 30 = .pointer (some ⟨3, 30, none⟩) := by kernel_rfl
  rw [hh] at e5
  simpa using World.var?_cell Tryd.gType e5 0

/-- a table's row of two numbers. -/
theorem trait_cells {W : World} {m : Nat} {cs : List Value} {x : DataW Unit × List MemPlace} {a b : Int} {enc : TypeId × Value → Unit} {base : Nat} {spare : TypeId → Bool} {held : Bool}
    (h : DataW.trod enc Tryd.prog W base spare held m 133 cs = some x) (hx : x.1 = .agg [.lit (.int .i64 a), .lit (.int .i64 b)]) : cs[0]? = some (.int .i64 a) ∧ cs[1]? = some (.int .i64 b) := by
  obtain ⟨y0, y1, n, rfl, hl, h0, h1⟩ := trod_struct2 Tryd.underlying133 h
  obtain ⟨k0, e0, rfl, _⟩ := DataW.trod_int Tryd.underlying3 h0
  obtain ⟨k1, e1, rfl, _⟩ := DataW.trod_int Tryd.underlying3 h1
  simp at hx
  obtain ⟨rfl, rfl⟩ := hx
  rw [Tryd.cellsTrait] at hl
  rw [Tryd.cellsInt] at e0 e1
  obtain ⟨c0, c1, rfl⟩ : ∃ c0 c1, cs = [c0, c1] := by
    rcases cs with _ | ⟨c0, _ | ⟨c1, _ | ⟨c2, r⟩⟩⟩
    · simp at hl
    · simp at hl
    · exact ⟨c0, c1, rfl⟩
    · simp at hl
  have e0' : [c0] = [Value.int .i64 k0] := e0
  have e1' : [c1] = [Value.int .i64 k1] := e1
  exact ⟨by rw [List.getElem?_cons_zero, (List.cons.inj e0').1], by rw [List.getElem?_cons_succ, List.getElem?_cons_zero, (List.cons.inj e1').1]⟩

theorem tab_of {W : World} {m : Nat} {cs : List Value} {ps : List MemPlace} {enc : TypeId × Value → Unit} {base : Nat} {spare : TypeId → Bool} {held : Bool}
    (h : DataW.trod enc Tryd.prog W base spare held m 136 cs = some (Rows.laid_triage_triage_traits, ps)) (hc : ∀ i, W.cell? ⟨2, i, none⟩ = cs[i]?) : Tab W := by
  obtain ⟨xs, m1, rfl, hx, hlen, hn, hel⟩ := DataW.trod_array Tryd.underlying136 h
  simp only [Prod.mk.injEq] at hx
  have hx1 := hx.1
  have key : ∀ op a b, op < 18 → (xs.map (·.1))[op]? = some (.agg [.lit (.int .i64 a), .lit (.int .i64 b)]) → W.cell? ⟨2, op * 2, none⟩ = some (.int .i64 a) ∧ W.cell? ⟨2, op * 2 + 1, none⟩ = some (.int .i64 b) := by
    intro op a b hop hd
    have he := hel op hop
    rw [Tryd.cellsTrait] at he
    obtain ⟨x, hxo⟩ : ∃ x, xs[op]? = some x := ⟨xs[op], List.getElem?_eq_getElem (by omega)⟩
    rw [hxo] at he
    simp [List.getElem?_map, hxo] at hd
    obtain ⟨c0, c1⟩ := trait_cells he hd
    rw [hc, hc]
    simp [List.getElem?_drop] at c0 c1
    exact ⟨c0, c1⟩
  rw [Rows.laid_triage_triage_traits, DataW.agg.injEq] at hx1
  rw [← hx1] at key
  constructor
  · intro op hop
    rcases (show op = 0 ∨ op = 1 ∨ op = 2 ∨ op = 3 ∨ op = 4 ∨ op = 5 ∨ op = 6 ∨ op = 7 ∨ op = 8 ∨ op = 9 ∨ op = 10 ∨ op = 11 ∨ op = 12 ∨ op = 13 ∨ op = 14 ∨ op = 15 ∨ op = 16 ∨ op = 17 by omega) with h | h | h | h | h | h | h | h | h | h | h | h | h | h | h | h | h | h <;> subst h <;> exact (key _ _ _ (by omega) rfl).1
  · intro op hop
    rcases (show op = 0 ∨ op = 1 ∨ op = 2 ∨ op = 3 ∨ op = 4 ∨ op = 5 ∨ op = 6 ∨ op = 7 ∨ op = 8 ∨ op = 9 ∨ op = 10 ∨ op = 11 ∨ op = 12 ∨ op = 13 ∨ op = 14 ∨ op = 15 ∨ op = 16 ∨ op = 17 by omega) with h | h | h | h | h | h | h | h | h | h | h | h | h | h | h | h | h | h <;> subst h <;> exact (key _ _ _ (by omega) rfl).2

/-- WHAT THE CONDITION GIVES. -/
theorem glob_of_laid {W : World} (h : laidMetH Tryd.prog laid3 W) : Glob W := by
  have h' : laidMet Tryd.prog [("triage/triage.Broken", Rows.laid_triage_triage_Broken), ("triage/triage.traits", Rows.laid_triage_triage_traits)] W ∧ handlesMet Tryd.prog [("errors.errorType", Rows.laid_errors_errorType)] W := h
  obtain ⟨hL, hH⟩ := h'
  obtain ⟨a, s, hv, _, _, _⟩ := laid_sentinel hL Tryd.gBroken Tryd.tBroken Tryd.underlying30 Tryd.rowES Tryd.underlying151 Tryd.underlying172 rfl rfl Tryd.underlying9 Tryd.cellsES Tryd.cellsStr
  have hT := hL.tail
  obtain ⟨ps, ⟨g1, t1, cs1, f1, p1, q1, hg1, ht1, hv1, hd1, _, _⟩, _, _⟩ := hT
  obtain rfl := Option.some.inj (Tryd.gTraits.symm.trans hg1)
  obtain rfl := Option.some.inj (Tryd.tTraits.symm.trans ht1)
  refine ⟨tab_of hd1 (fun i => ?_), handle_of_laid hH, a, ?_⟩
  · have h := World.var?_cell hg1 hv1 i
    simpa using h
  · simpa using World.var?_cell Tryd.gBroken hv 0

/-- The door's own heap meets the condition. -/
theorem door_met (os : Os) (args : Array Value) : laidMetH Tryd.prog laid3 ((World.doorLaid Tryd.prog 400 os).forCall (fun _ _ => 0) ⟨#[], args, []⟩).memory :=
  laidMetH_of_parts3 (fuel := 8) (laidMet_of_run' 8 (by kernel_rfl) (by kernel_rfl)) (by kernel_rfl) (by kernel_rfl)
end Go.Proofs.YthljaemhgkepoaaDoor
