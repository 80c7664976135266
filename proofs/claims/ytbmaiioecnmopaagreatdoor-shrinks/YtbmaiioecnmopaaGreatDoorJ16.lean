/-
  REPORTS, and what a run of anything answers (outP). By the verifier of the loop 'triage'.
-/
import Derived.Test.YtbmaiioecnmopaaGreatDoorJ15
namespace Go.Proofs.YtbmaiioecnmopaaGreatDoor
open Go.RowKit

/-- a report. -/
structure Rp where
  en : Nat
  fa : Nat
  pa : Nat
  kd : Nat
  sts : List (Nat × Nat)
  eds : List Nat
  k : Nat
  top : Int
def rz : Rp := ⟨0, 0, 0, 0, [], [], 0, 0⟩
def ofR (r : Rn) : Rp := ⟨r.1, rfa r, rpa r, r.2.1, rsts r, Im.el r.2.2.1.edg, r.2.2.2, rtop r⟩
/-- what a run of any text, any input, any fuel answers. -/
def outP (s inp : ByteArray) (fuel : Int) : Rp × Int × Int :=
  if (Im.chk s).1 ≠ 0 then (rz, (Im.chk s).1, (Im.chk s).2) else if 24 < inp.size then (rz, 1, 0) else if fuel < 0 ∨ 2000 < fuel then (rz, 6, 0) else (ofR (Im.runP s inp fuel.toNat (Im.st0 s) 0), 0, 0)
theorem chk_zero (s : ByteArray) (h : (Im.chk s).1 = 0) : Im.chk s = (0, 0) := by
  revert h
  unfold Im.chk
  split
  · simp
  · cases Im.hd s with
    | some p => simp
    | none =>
      dsimp only
      cases Im.firstF (Im.gOp s) (Im.bt s 0) 0 with
      | some p => simp
      | none =>
        dsimp only
        cases Im.firstF (Im.gJump s (Im.bt s 0)) (Im.bt s 0) 0 with
        | some p => simp
        | none =>
          dsimp only
          cases Im.firstF (Im.gFall s) (Im.bt s 0) 0 with
          | some p => simp
          | none => simp

/-- a report of the document's type. -/
def RepR (B : Nat) (w : World) (p : Rp) (v : Value) : Prop :=
  ∃ v28 v29, v = .agg #[.int .i64 (p.en : Nat), .int .i64 (p.fa : Nat), .int .i64 (p.pa : Nat), .int .i64 (p.kd : Nat), v28, v29, .int .i64 (p.k : Nat), .int .i64 p.top] ∧
    w.ownsRow B 86 2 v28 p.sts.length (prs p.sts) ∧ w.ownsRow B 3 1 v29 p.eds.length (ints p.eds)

def RunPost (s inp : ByteArray) (fuel : Int) (w w' : World) (e : Ending) : Prop :=
  ∃ v, e = .returned (.tuple #[v, .int .i64 (outP s inp fuel).2.1, .int .i64 (outP s inp fuel).2.2]) ∧ RepR w.heap.size w' (outP s inp fuel).1 v ∧ Below w.heap.size w w'

theorem below_new {w w1 : World} {o : Obj} (h1 : Below (w.alloc o).heap.size (w.alloc o) w1) : Below w.heap.size w w1 := by
  have hs := h1.size
  simp at hs
  exact ⟨h1.os, h1.tape, h1.output, by omega, fun k hk => (h1.block k (by simp; omega)).trans (Below.heap_alloc _ _ _ hk)⟩
/-- the result's block, as it is laid. -/
theorem z8_of {w : World} {b : Nat} {t : TypeId} (hrb : w.heap[b]? = some (.cells #[.int .i64 0, .int .i64 0, .int .i64 0, .int .i64 0, .slice none 0 0, .slice none 0 0, .int .i64 0, .int .i64 0] t (0, 0))) :
    (w.cell? ⟨b, 0, none⟩ = some (.int .i64 0) ∧ w.cell? ⟨b, 1, none⟩ = some (.int .i64 0) ∧ w.cell? ⟨b, 2, none⟩ = some (.int .i64 0) ∧ w.cell? ⟨b, 3, none⟩ = some (.int .i64 0) ∧ w.cell? ⟨b, 4, none⟩ = some (.slice none 0 0) ∧ w.cell? ⟨b, 5, none⟩ = some (.slice none 0 0) ∧ w.cell? ⟨b, 6, none⟩ = some (.int .i64 0) ∧ w.cell? ⟨b, 7, none⟩ = some (.int .i64 0)) ∧
    (w.frozen? ⟨b, 0, none⟩ = false ∧ w.frozen? ⟨b, 1, none⟩ = false ∧ w.frozen? ⟨b, 2, none⟩ = false ∧ w.frozen? ⟨b, 3, none⟩ = false ∧ w.frozen? ⟨b, 4, none⟩ = false ∧ w.frozen? ⟨b, 5, none⟩ = false ∧ w.frozen? ⟨b, 6, none⟩ = false ∧ w.frozen? ⟨b, 7, none⟩ = false) :=
  ⟨⟨rcell_of hrb rfl, rcell_of hrb rfl, rcell_of hrb rfl, rcell_of hrb rfl, rcell_of hrb rfl, rcell_of hrb rfl, rcell_of hrb rfl, rcell_of hrb rfl⟩, ⟨rfree_of hrb, rfree_of hrb, rfree_of hrb, rfree_of hrb, rfree_of hrb, rfree_of hrb, rfree_of hrb, rfree_of hrb⟩⟩
theorem run_none {s inp : ByteArray} {fuel c p : Int} {w w1 : World} {o : Obj} (ho : outP s inp fuel = (rz, c, p)) (hb : Below (w.alloc o).heap.size (w.alloc o) w1) (v0 v1 v2 v3 v4 v5 v6 v7 : Value) :
    RunPost s inp fuel w (put8 w1 w.heap.size v0 v1 v2 v3 v4 v5 v6 v7) (.returned (.tuple #[.agg #[.int .i64 0, .int .i64 0, .int .i64 0, .int .i64 0, .slice none 0 0, .slice none 0 0, .int .i64 0, .int .i64 0], .int .i64 c, .int .i64 p])) := by
  unfold RunPost
  rw [ho]
  exact ⟨_, rfl, ⟨_, _, rfl, World.ownsRow_nil _ _ _ _, World.ownsRow_nil _ _ _ _⟩, put8_below (below_new hb) (Nat.le_refl _)⟩
end Go.Proofs.YtbmaiioecnmopaaGreatDoor
