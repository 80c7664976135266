/-
  RefM, RefN, RefO, RefP, RefQ, RefR: THESE TEXTS, JOINED. By the verifier of the loop 'triage'.
-/
import Derived.Test.YtjhjkdcophcgaaaGreatDoorJ02
import Derived.Test.YtjhjkdcophcgaaaGreatDoorJ05
import Derived.BigRegion
import Derived.Laws.Bits64
/-
  THE DOCUMENT's SIDE (package triageref): the machine's memory; takes, pushes, truth, pop, push. By the verifier of the loop 'triage'.
-/
namespace Go.Proofs.YtjhjkdcophcgaaaGreatDoor
open Go.RowKit

def updV (L : Nat → Value) (k : Nat) (v : Value) : Nat → Value := fun i => if i = k then v else L i
theorem updV_at (L : Nat → Value) (k : Nat) (v : Value) : updV L k v k = v := by simp [updV]
theorem updV_ne (L : Nat → Value) (k i : Nat) (v : Value) (h : i ≠ k) : updV L k v i = L i := by simp [updV, h]

/-- a block of c cells, as a function tells them. -/
structure Bx (b c : Nat) (L : Nat → Value) (w : World) : Prop where
  cell : ∀ o, o < c → w.cell? ⟨b, o, none⟩ = some (L o)
  frz : ∀ o, w.frozen? ⟨b, o, none⟩ = false
  lt : b < w.heap.size
theorem Bx.set {b c : Nat} {L : Nat → Value} {w : World} (h : Bx b c L w) (o : Nat) (v : Value) : o < c → Bx b c (updV L o v) (w.setCell ⟨b, o, none⟩ v) := by
  intro ho
  refine ⟨?_, fun o' => (World.frozen?_setCell _ _ _ _).trans (h.frz o'), by simpa using h.lt⟩
  intro o' ho'
  by_cases he : o' = o
  · subst he; rw [updV_at]; exact World.cell?_setCell_same _ _ _ (h.cell o' ho')
  · rw [updV_ne _ _ _ _ he, World.cell?_setCell_other _ _ _ _ (by simp)]; exact h.cell o' ho'
theorem Bx.grown {b c : Nat} {L : Nat → Value} {w w' : World} (h : Bx b c L w) {row : Option Nat} (hg : w.grownBy w' row) (hr : some b ≠ row) : Bx b c L w' :=
  ⟨fun o ho => hg.cell (h.cell o ho) hr, fun o => (World.frozen?_of_block (a := ⟨b, o, none⟩) (hg.block b h.lt hr)).trans (h.frz o), Nat.lt_of_lt_of_le h.lt hg.size⟩
theorem Bx.alloc {b c : Nat} {L : Nat → Value} {w : World} (h : Bx b c L w) (o : Obj) : Bx b c L (w.alloc o) := h.grown (World.grownBy_alloc w o none) (by simp)
theorem Bx.drewN {b c : Nat} {L : Nat → Value} {w : World} (h : Bx b c L w) (n : Nat) : Bx b c L (w.drewN n) := ⟨h.cell, h.frz, h.lt⟩

/-- below B nothing turns but block b. -/
structure Kx (B b : Nat) (w w' : World) : Prop where
  os : w'.os = w.os
  tape : w'.tape = w.tape
  output : w'.output = w.output
  size : w.heap.size ≤ w'.heap.size
  block : ∀ k, k < B → k ≠ b → w'.heap[k]? = w.heap[k]?
theorem Kx.refl (B b : Nat) (w : World) : Kx B b w w := ⟨rfl, rfl, rfl, Nat.le_refl _, fun _ _ _ => rfl⟩
theorem Kx.trans {B b : Nat} {w w1 w2 : World} (h : Kx B b w w1) (k : Kx B b w1 w2) : Kx B b w w2 :=
  ⟨k.os.trans h.os, k.tape.trans h.tape, k.output.trans h.output, Nat.le_trans h.size k.size, fun j hj hne => (k.block j hj hne).trans (h.block j hj hne)⟩
theorem Kx.set {B b : Nat} {w w1 : World} (h : Kx B b w w1) (o : Nat) (v : Value) : Kx B b w (w1.setCell ⟨b, o, none⟩ v) :=
  h.trans ⟨rfl, rfl, rfl, by simp, fun j _ hne => Below.heap_setCell _ _ _ _ hne⟩
theorem Kx.drewN {B b : Nat} {w w1 : World} (h : Kx B b w w1) (n : Nat) : Kx B b w (w1.drewN n) := h.trans ⟨rfl, rfl, rfl, Nat.le_refl _, fun _ _ _ => rfl⟩
theorem Kx.alloc {B b : Nat} {w w1 : World} (h : Kx B b w w1) (hB : B ≤ w1.heap.size) (o : Obj) : Kx B b w (w1.alloc o) :=
  h.trans ⟨rfl, rfl, rfl, by simp, fun j hj _ => Below.heap_alloc _ _ _ (by omega)⟩
theorem Kx.grown {B b : Nat} {w w1 w2 : World} (h : Kx B b w w1) {row : Option Nat} (hg : w1.grownBy w2 row) (hB : B ≤ w1.heap.size) (hr : ∀ k, row = some k → B ≤ k) : Kx B b w w2 :=
  h.trans ⟨hg.os, hg.tape, hg.output, hg.size, fun j hj _ => hg.block j (by omega) (fun e => by have := hr j e.symm; omega)⟩

/-- a list of pairs in memory. -/
def prs : List (Nat × Nat) → List Value
  | [] => []
  | p :: r => .int .i64 (p.1 : Nat) :: .int .i64 (p.2 : Nat) :: prs r
theorem prs_append (a b : List (Nat × Nat)) : prs (a ++ b) = prs a ++ prs b := by
  induction a with
  | nil => rfl
  | cons p r ih => simp [prs, ih]
theorem prs_len (a : List (Nat × Nat)) : (prs a).length = a.length * 2 := by
  induction a with
  | nil => rfl
  | cons p r ih => simp [prs, ih]; omega

/-- THE MEMORY of the document's machine: its struct at bb as L tells it; the rows it owns, from 'base' on. -/
structure Ms (s inp : ByteArray) (n bb bF cF base : Nat) (m : Im.St) (k : Nat) (L : Nat → Value) (w : World) : Prop where
  bx : Bx bb 33 L w
  l0 : L 0 = .string s
  l1 : L 1 = .slice (some ⟨bF, 0, none⟩) n cF
  l2 : L 2 = .string inp
  l3 : L 3 = .int .i64 (m.pos : Nat)
  l4 : L 4 = .int .i64 (m.fn : Nat)
  l5 : L 5 = .int .i64 (m.at_ : Nat)
  rs : w.ownsRow base 3 1 (L 6) m.stk.length (ints m.stk)
  lc : ∀ i, i < 16 → L (7 + i) = .int .i64 (m.cel i : Nat)
  rc : w.ownsRow base 86 2 (L 23) m.cal.length (prs m.cal)
  l24 : L 24 = .int .i64 0
  l25 : L 25 = .int .i64 0
  l26 : L 26 = .int .i64 0
  l27 : L 27 = .int .i64 0
  l28 : L 28 = .slice none 0 0
  re : w.ownsRow base 3 1 (L 29) (Im.el m.edg).length (ints (Im.el m.edg))
  l30 : L 30 = .int .i64 (k : Nat)
  l31 : L 31 = .int .i64 (-1)
  l32 : L 32 = .bool false
  dse : (L 6).ownBlock = none ∨ (L 6).ownBlock ≠ (L 29).ownBlock
  fc : ∀ f, f < n → w.cell? ⟨bF, f * 2, none⟩ = some (.int .i64 (Im.st s f : Nat))
  hbb : bb < base
  hbF : bF < base
  hne : bF ≠ bb
  hba : base ≤ w.heap.size

set_option maxHeartbeats 400000 in
theorem takes_any (c : Nat) (w : World) (hc : c < 256) : Calls Tryz.prog 87 #[.int .u8 c] w fun e w' => e = .returned (.int .i64 (Im.tk c : Nat)) ∧ w = w' := by
  go_enter Tryz.func87, Tryz.ntmps87
  go_wp2
  all_goals
    go_ret
    refine ⟨ret_int ?_, rfl⟩
    simp only [beq_iff_eq, beq_eq_false_iff_ne] at *
    unfold Im.tk
    first
      | (rw [if_pos (by omega)]; rfl)
      | (rw [if_neg (by omega), if_pos (by omega)]; rfl)
      | (rw [if_neg (by omega), if_neg (by omega)]; rfl)
set_option maxHeartbeats 400000 in
theorem pushes_any (c : Nat) (w : World) (hc : c < 256) : Calls Tryz.prog 89 #[.int .u8 c] w fun e w' => e = .returned (.int .i64 (Im.psh c : Nat)) ∧ w = w' := by
  go_enter Tryz.func89, Tryz.ntmps89
  go_wp2
  all_goals
    go_ret
    refine ⟨ret_int ?_, rfl⟩
    simp only [beq_iff_eq, beq_eq_false_iff_ne] at *
    unfold Im.psh
    first
      | (rw [if_pos (by omega)]; rfl)
      | (rw [if_neg (by omega), if_pos (by omega)]; rfl)
      | (rw [if_neg (by omega), if_neg (by omega)]; rfl)
theorem truth_any (b : Bool) (w : World) : Calls Tryz.prog 106 #[.bool b] w fun e w' => e = .returned (.int .i64 (if b then 1 else 0 : Nat)) ∧ w = w' := by
  cases b
  all_goals
    go_enter Tryz.func106, Tryz.ntmps106
    go_wp2
    go_ret
    exact ⟨ret_int (by simp), rfl⟩
end Go.Proofs.YtjhjkdcophcgaaaGreatDoor

/-
  THE DOCUMENT's SIDE (package triageref): pop, push. By the verifier of the loop 'triage'.
-/
namespace Go.Proofs.YtjhjkdcophcgaaaGreatDoor
open Go.RowKit

theorem owns_take {w : World} {base : Nat} {e : TypeId} {size g n cap k : Nat} {xs : List Value} (h : w.ownsRow base e size (.slice (some ⟨g, 0, none⟩) n cap) n xs) (hk : k ≤ n) :
    w.ownsRow base e size (.slice (some ⟨g, 0, none⟩) k cap) k (xs.take (k * size)) := by
  obtain ⟨hl, ⟨h0, _⟩ | ⟨g', cap', cur, h1, hb, hg, hn, hc, hs, ht⟩⟩ := h
  · simp at h0
  · obtain ⟨rfl, rfl⟩ : g = g' ∧ cap = cap' := by simpa using h1
    have hks : k * size ≤ n * size := Nat.mul_le_mul_right _ hk
    refine ⟨by rw [List.length_take, hl]; omega, Or.inr ⟨g, cap, cur, rfl, hb, hg, by omega, hc, hs, ?_⟩⟩
    rw [← ht, List.take_take, Nat.min_eq_left hks]

/-- an owned row of at least one element: its value and its cells. -/
theorem owns_some {w : World} {base : Nat} {e : TypeId} {size : Nat} {v : Value} {n : Nat} {xs : List Value} (h : w.ownsRow base e size v n xs) (hn : 0 < n) :
    ∃ g cap, v = .slice (some ⟨g, 0, none⟩) n cap ∧ base ≤ g ∧ n ≤ cap ∧ cap ≤ maxLen ∧ g < w.heap.size ∧ ∀ j u, xs[j]? = some u → w.cell? ⟨g, j, none⟩ = some u := by
  have hc := fun g (hg : v.ownBlock = some g) => h.cells hg
  obtain ⟨_, ⟨_, h0⟩ | ⟨g, cap, cur, rfl, hb, hg, hnc, hcm, _, _⟩⟩ := h
  · omega
  · exact ⟨g, cap, rfl, hb, hnc, hcm, (Array.getElem?_eq_some_iff.1 hg).1, fun j u hu => by have := hc g rfl j u hu; rw [addr_add] at this; exact this⟩
theorem owns_kind {w : World} {base base' : Nat} {e e' : TypeId} {size size' : Nat} {v v' : Value} {n n' : Nat} {xs xs' : List Value} (h : w.ownsRow base e size v n xs) (h' : w.ownsRow base' e' size' v' n' xs') (he : e ≠ e') : v.ownBlock = none ∨ v.ownBlock ≠ v'.ownBlock := by
  obtain ⟨_, ⟨rfl, _⟩ | ⟨g, cap, cur, rfl, _, hg, _⟩⟩ := h
  · left; rfl
  · obtain ⟨_, ⟨rfl, _⟩ | ⟨g', cap', cur', rfl, _, hg', _⟩⟩ := h'
    · right; simp [Value.ownBlock]
    · right
      simp only [Value.ownBlock, ne_eq, Option.some.injEq]
      intro hh
      rw [hh, hg'] at hg
      simp at hg
      exact he hg.2.symm

theorem ints_take (l : List Nat) (k : Nat) : ints (l.take k) = (ints l).take (k * 1) := by simp [ints, List.map_take]
theorem ints_get (l : List Nat) (j : Nat) (h : j < l.length) : (ints l)[j]? = some (.int .i64 (l[j]?.getD 0 : Nat)) := by simp [ints, List.getElem?_eq_getElem h]

theorem Ms.drewN {s inp : ByteArray} {n bb bF cF base k : Nat} {m : Im.St} {L : Nat → Value} {w : World} (hM : Ms s inp n bb bF cF base m k L w) (q : Nat) : Ms s inp n bb bF cF base m k L (w.drewN q) := { hM with bx := hM.bx.drewN q, rs := hM.rs, rc := hM.rc, re := hM.re, fc := hM.fc, hba := hM.hba }
theorem Ms.alloc {s inp : ByteArray} {n bb bF cF base k : Nat} {m : Im.St} {L : Nat → Value} {w : World} (hM : Ms s inp n bb bF cF base m k L w) (o : Obj) : Ms s inp n bb bF cF base m k L (w.alloc o) := { hM with bx := hM.bx.alloc o, rs := hM.rs.alloc o, rc := hM.rc.alloc o, re := hM.re.alloc o, fc := fun f hf => (World.grownBy_alloc w o none).cell (hM.fc f hf) (by simp), hba := by have := hM.hba; simp; omega }
theorem Ms.setAt {s inp : ByteArray} {n bb bF cF base k : Nat} {m : Im.St} {L : Nat → Value} {w : World} (hM : Ms s inp n bb bF cF base m k L w) (a : Nat) : Ms s inp n bb bF cF base { m with at_ := a } k (updV L 5 (.int .i64 (a : Nat))) (w.setCell ⟨bb, 5, none⟩ (.int .i64 (a : Nat))) := by
  have low : ∀ {e : TypeId} {size : Nat} {x : Value} {q : Nat} {xs : List Value}, w.ownsRow base e size x q xs → (w.setCell ⟨bb, 5, none⟩ (.int .i64 (a : Nat))).ownsRow base e size x q xs := fun h => ownsRow_setCell_below h (by exact hM.hbb) _
  constructor
  case bx => exact hM.bx.set _ _ (by omega)
  case rs => rw [updV_ne _ _ _ _ (by omega)]; exact low hM.rs
  case rc => rw [updV_ne _ _ _ _ (by omega)]; exact low hM.rc
  case re => rw [updV_ne _ _ _ _ (by omega)]; exact low hM.re
  case dse => rw [updV_ne _ _ _ _ (by omega), updV_ne _ _ _ _ (by omega)]; exact hM.dse
  case fc => exact fun f hf => (World.cell?_of_block (a := ⟨bF, f * 2, none⟩) (Below.heap_setCell _ _ _ _ hM.hne)).trans (hM.fc f hf)
  case lc => exact fun i hi => by rw [updV_ne _ _ _ _ (by omega)]; exact hM.lc i hi
  case hbb => exact hM.hbb
  case hbF => exact hM.hbF
  case hne => exact hM.hne
  case hba => simpa using hM.hba
  case l0 => rw [updV_ne _ _ _ _ (by omega)]; exact hM.l0
  case l1 => rw [updV_ne _ _ _ _ (by omega)]; exact hM.l1
  case l2 => rw [updV_ne _ _ _ _ (by omega)]; exact hM.l2
  case l3 => rw [updV_ne _ _ _ _ (by omega)]; exact hM.l3
  case l4 => rw [updV_ne _ _ _ _ (by omega)]; exact hM.l4
  case l5 => rw [updV_at]
  case l24 => rw [updV_ne _ _ _ _ (by omega)]; exact hM.l24
  case l25 => rw [updV_ne _ _ _ _ (by omega)]; exact hM.l25
  case l26 => rw [updV_ne _ _ _ _ (by omega)]; exact hM.l26
  case l27 => rw [updV_ne _ _ _ _ (by omega)]; exact hM.l27
  case l28 => rw [updV_ne _ _ _ _ (by omega)]; exact hM.l28
  case l30 => rw [updV_ne _ _ _ _ (by omega)]; exact hM.l30
  case l31 => rw [updV_ne _ _ _ _ (by omega)]; exact hM.l31
  case l32 => rw [updV_ne _ _ _ _ (by omega)]; exact hM.l32
theorem Ms.setFn {s inp : ByteArray} {n bb bF cF base k : Nat} {m : Im.St} {L : Nat → Value} {w : World} (hM : Ms s inp n bb bF cF base m k L w) (a : Nat) : Ms s inp n bb bF cF base { m with fn := a } k (updV L 4 (.int .i64 (a : Nat))) (w.setCell ⟨bb, 4, none⟩ (.int .i64 (a : Nat))) := by
  have low : ∀ {e : TypeId} {size : Nat} {x : Value} {q : Nat} {xs : List Value}, w.ownsRow base e size x q xs → (w.setCell ⟨bb, 4, none⟩ (.int .i64 (a : Nat))).ownsRow base e size x q xs := fun h => ownsRow_setCell_below h (by exact hM.hbb) _
  constructor
  case bx => exact hM.bx.set _ _ (by omega)
  case rs => rw [updV_ne _ _ _ _ (by omega)]; exact low hM.rs
  case rc => rw [updV_ne _ _ _ _ (by omega)]; exact low hM.rc
  case re => rw [updV_ne _ _ _ _ (by omega)]; exact low hM.re
  case dse => rw [updV_ne _ _ _ _ (by omega), updV_ne _ _ _ _ (by omega)]; exact hM.dse
  case fc => exact fun f hf => (World.cell?_of_block (a := ⟨bF, f * 2, none⟩) (Below.heap_setCell _ _ _ _ hM.hne)).trans (hM.fc f hf)
  case lc => exact fun i hi => by rw [updV_ne _ _ _ _ (by omega)]; exact hM.lc i hi
  case hbb => exact hM.hbb
  case hbF => exact hM.hbF
  case hne => exact hM.hne
  case hba => simpa using hM.hba
  case l0 => rw [updV_ne _ _ _ _ (by omega)]; exact hM.l0
  case l1 => rw [updV_ne _ _ _ _ (by omega)]; exact hM.l1
  case l2 => rw [updV_ne _ _ _ _ (by omega)]; exact hM.l2
  case l3 => rw [updV_ne _ _ _ _ (by omega)]; exact hM.l3
  case l4 => rw [updV_at]
  case l5 => rw [updV_ne _ _ _ _ (by omega)]; exact hM.l5
  case l24 => rw [updV_ne _ _ _ _ (by omega)]; exact hM.l24
  case l25 => rw [updV_ne _ _ _ _ (by omega)]; exact hM.l25
  case l26 => rw [updV_ne _ _ _ _ (by omega)]; exact hM.l26
  case l27 => rw [updV_ne _ _ _ _ (by omega)]; exact hM.l27
  case l28 => rw [updV_ne _ _ _ _ (by omega)]; exact hM.l28
  case l30 => rw [updV_ne _ _ _ _ (by omega)]; exact hM.l30
  case l31 => rw [updV_ne _ _ _ _ (by omega)]; exact hM.l31
  case l32 => rw [updV_ne _ _ _ _ (by omega)]; exact hM.l32
theorem Ms.setPos {s inp : ByteArray} {n bb bF cF base k : Nat} {m : Im.St} {L : Nat → Value} {w : World} (hM : Ms s inp n bb bF cF base m k L w) (a : Nat) : Ms s inp n bb bF cF base { m with pos := a } k (updV L 3 (.int .i64 (a : Nat))) (w.setCell ⟨bb, 3, none⟩ (.int .i64 (a : Nat))) := by
  have low : ∀ {e : TypeId} {size : Nat} {x : Value} {q : Nat} {xs : List Value}, w.ownsRow base e size x q xs → (w.setCell ⟨bb, 3, none⟩ (.int .i64 (a : Nat))).ownsRow base e size x q xs := fun h => ownsRow_setCell_below h (by exact hM.hbb) _
  constructor
  case bx => exact hM.bx.set _ _ (by omega)
  case rs => rw [updV_ne _ _ _ _ (by omega)]; exact low hM.rs
  case rc => rw [updV_ne _ _ _ _ (by omega)]; exact low hM.rc
  case re => rw [updV_ne _ _ _ _ (by omega)]; exact low hM.re
  case dse => rw [updV_ne _ _ _ _ (by omega), updV_ne _ _ _ _ (by omega)]; exact hM.dse
  case fc => exact fun f hf => (World.cell?_of_block (a := ⟨bF, f * 2, none⟩) (Below.heap_setCell _ _ _ _ hM.hne)).trans (hM.fc f hf)
  case lc => exact fun i hi => by rw [updV_ne _ _ _ _ (by omega)]; exact hM.lc i hi
  case hbb => exact hM.hbb
  case hbF => exact hM.hbF
  case hne => exact hM.hne
  case hba => simpa using hM.hba
  case l0 => rw [updV_ne _ _ _ _ (by omega)]; exact hM.l0
  case l1 => rw [updV_ne _ _ _ _ (by omega)]; exact hM.l1
  case l2 => rw [updV_ne _ _ _ _ (by omega)]; exact hM.l2
  case l3 => rw [updV_at]
  case l4 => rw [updV_ne _ _ _ _ (by omega)]; exact hM.l4
  case l5 => rw [updV_ne _ _ _ _ (by omega)]; exact hM.l5
  case l24 => rw [updV_ne _ _ _ _ (by omega)]; exact hM.l24
  case l25 => rw [updV_ne _ _ _ _ (by omega)]; exact hM.l25
  case l26 => rw [updV_ne _ _ _ _ (by omega)]; exact hM.l26
  case l27 => rw [updV_ne _ _ _ _ (by omega)]; exact hM.l27
  case l28 => rw [updV_ne _ _ _ _ (by omega)]; exact hM.l28
  case l30 => rw [updV_ne _ _ _ _ (by omega)]; exact hM.l30
  case l31 => rw [updV_ne _ _ _ _ (by omega)]; exact hM.l31
  case l32 => rw [updV_ne _ _ _ _ (by omega)]; exact hM.l32
theorem Ms.setSteps {s inp : ByteArray} {n bb bF cF base k : Nat} {m : Im.St} {L : Nat → Value} {w : World} (hM : Ms s inp n bb bF cF base m k L w) (a : Nat) : Ms s inp n bb bF cF base m a (updV L 30 (.int .i64 (a : Nat))) (w.setCell ⟨bb, 30, none⟩ (.int .i64 (a : Nat))) := by
  have low : ∀ {e : TypeId} {size : Nat} {x : Value} {q : Nat} {xs : List Value}, w.ownsRow base e size x q xs → (w.setCell ⟨bb, 30, none⟩ (.int .i64 (a : Nat))).ownsRow base e size x q xs := fun h => ownsRow_setCell_below h (by exact hM.hbb) _
  constructor
  case bx => exact hM.bx.set _ _ (by omega)
  case rs => rw [updV_ne _ _ _ _ (by omega)]; exact low hM.rs
  case rc => rw [updV_ne _ _ _ _ (by omega)]; exact low hM.rc
  case re => rw [updV_ne _ _ _ _ (by omega)]; exact low hM.re
  case dse => rw [updV_ne _ _ _ _ (by omega), updV_ne _ _ _ _ (by omega)]; exact hM.dse
  case fc => exact fun f hf => (World.cell?_of_block (a := ⟨bF, f * 2, none⟩) (Below.heap_setCell _ _ _ _ hM.hne)).trans (hM.fc f hf)
  case lc => exact fun i hi => by rw [updV_ne _ _ _ _ (by omega)]; exact hM.lc i hi
  case hbb => exact hM.hbb
  case hbF => exact hM.hbF
  case hne => exact hM.hne
  case hba => simpa using hM.hba
  case l0 => rw [updV_ne _ _ _ _ (by omega)]; exact hM.l0
  case l1 => rw [updV_ne _ _ _ _ (by omega)]; exact hM.l1
  case l2 => rw [updV_ne _ _ _ _ (by omega)]; exact hM.l2
  case l3 => rw [updV_ne _ _ _ _ (by omega)]; exact hM.l3
  case l4 => rw [updV_ne _ _ _ _ (by omega)]; exact hM.l4
  case l5 => rw [updV_ne _ _ _ _ (by omega)]; exact hM.l5
  case l24 => rw [updV_ne _ _ _ _ (by omega)]; exact hM.l24
  case l25 => rw [updV_ne _ _ _ _ (by omega)]; exact hM.l25
  case l26 => rw [updV_ne _ _ _ _ (by omega)]; exact hM.l26
  case l27 => rw [updV_ne _ _ _ _ (by omega)]; exact hM.l27
  case l28 => rw [updV_ne _ _ _ _ (by omega)]; exact hM.l28
  case l30 => rw [updV_at]
  case l31 => rw [updV_ne _ _ _ _ (by omega)]; exact hM.l31
  case l32 => rw [updV_ne _ _ _ _ (by omega)]; exact hM.l32
theorem Ms.setCel {s inp : ByteArray} {n bb bF cF base k : Nat} {m : Im.St} {L : Nat → Value} {w : World} (hM : Ms s inp n bb bF cF base m k L w) (j a : Nat) (hj : j < 16) : Ms s inp n bb bF cF base { m with cel := Im.upc m.cel j a } k (updV L (7 + j) (.int .i64 (a : Nat))) (w.setCell ⟨bb, (7 + j), none⟩ (.int .i64 (a : Nat))) := by
  have low : ∀ {e : TypeId} {size : Nat} {x : Value} {q : Nat} {xs : List Value}, w.ownsRow base e size x q xs → (w.setCell ⟨bb, (7 + j), none⟩ (.int .i64 (a : Nat))).ownsRow base e size x q xs := fun h => ownsRow_setCell_below h (by exact hM.hbb) _
  constructor
  case bx => exact hM.bx.set _ _ (by omega)
  case rs => rw [updV_ne _ _ _ _ (by omega)]; exact low hM.rs
  case rc => rw [updV_ne _ _ _ _ (by omega)]; exact low hM.rc
  case re => rw [updV_ne _ _ _ _ (by omega)]; exact low hM.re
  case dse => rw [updV_ne _ _ _ _ (by omega), updV_ne _ _ _ _ (by omega)]; exact hM.dse
  case fc => exact fun f hf => (World.cell?_of_block (a := ⟨bF, f * 2, none⟩) (Below.heap_setCell _ _ _ _ hM.hne)).trans (hM.fc f hf)
  case lc => 
    intro i hi
    by_cases he : i = j
    · subst he; rw [updV_at]; simp [Im.upc]
    · rw [updV_ne _ _ _ _ (by omega), hM.lc i hi]; simp [Im.upc, he]
  case hbb => exact hM.hbb
  case hbF => exact hM.hbF
  case hne => exact hM.hne
  case hba => simpa using hM.hba
  case l0 => rw [updV_ne _ _ _ _ (by omega)]; exact hM.l0
  case l1 => rw [updV_ne _ _ _ _ (by omega)]; exact hM.l1
  case l2 => rw [updV_ne _ _ _ _ (by omega)]; exact hM.l2
  case l3 => rw [updV_ne _ _ _ _ (by omega)]; exact hM.l3
  case l4 => rw [updV_ne _ _ _ _ (by omega)]; exact hM.l4
  case l5 => rw [updV_ne _ _ _ _ (by omega)]; exact hM.l5
  case l24 => rw [updV_ne _ _ _ _ (by omega)]; exact hM.l24
  case l25 => rw [updV_ne _ _ _ _ (by omega)]; exact hM.l25
  case l26 => rw [updV_ne _ _ _ _ (by omega)]; exact hM.l26
  case l27 => rw [updV_ne _ _ _ _ (by omega)]; exact hM.l27
  case l28 => rw [updV_ne _ _ _ _ (by omega)]; exact hM.l28
  case l30 => rw [updV_ne _ _ _ _ (by omega)]; exact hM.l30
  case l31 => rw [updV_ne _ _ _ _ (by omega)]; exact hM.l31
  case l32 => rw [updV_ne _ _ _ _ (by omega)]; exact hM.l32
theorem Ms.setStkIn {s inp : ByteArray} {n bb bF cF base k : Nat} {m : Im.St} {L : Nat → Value} {w : World} (hM : Ms s inp n bb bF cF base m k L w) (l : List Nat) (v : Value) (ho : w.ownsRow base 3 1 v l.length (ints l)) (hd : v.ownBlock = none ∨ v.ownBlock ≠ (L 29).ownBlock) : Ms s inp n bb bF cF base { m with stk := l } k (updV L 6 v) (w.setCell ⟨bb, 6, none⟩ v) := by
  have low : ∀ {e : TypeId} {size : Nat} {x : Value} {q : Nat} {xs : List Value}, w.ownsRow base e size x q xs → (w.setCell ⟨bb, 6, none⟩ v).ownsRow base e size x q xs := fun h => ownsRow_setCell_below h (by exact hM.hbb) _
  constructor
  case bx => exact hM.bx.set _ _ (by omega)
  case rs => rw [updV_at]; exact low ho
  case rc => rw [updV_ne _ _ _ _ (by omega)]; exact low hM.rc
  case re => rw [updV_ne _ _ _ _ (by omega)]; exact low hM.re
  case dse => rw [updV_at, updV_ne _ _ _ _ (by omega)]; exact hd
  case fc => exact fun f hf => (World.cell?_of_block (a := ⟨bF, f * 2, none⟩) (Below.heap_setCell _ _ _ _ hM.hne)).trans (hM.fc f hf)
  case lc => exact fun i hi => by rw [updV_ne _ _ _ _ (by omega)]; exact hM.lc i hi
  case hbb => exact hM.hbb
  case hbF => exact hM.hbF
  case hne => exact hM.hne
  case hba => simpa using hM.hba
  case l0 => rw [updV_ne _ _ _ _ (by omega)]; exact hM.l0
  case l1 => rw [updV_ne _ _ _ _ (by omega)]; exact hM.l1
  case l2 => rw [updV_ne _ _ _ _ (by omega)]; exact hM.l2
  case l3 => rw [updV_ne _ _ _ _ (by omega)]; exact hM.l3
  case l4 => rw [updV_ne _ _ _ _ (by omega)]; exact hM.l4
  case l5 => rw [updV_ne _ _ _ _ (by omega)]; exact hM.l5
  case l24 => rw [updV_ne _ _ _ _ (by omega)]; exact hM.l24
  case l25 => rw [updV_ne _ _ _ _ (by omega)]; exact hM.l25
  case l26 => rw [updV_ne _ _ _ _ (by omega)]; exact hM.l26
  case l27 => rw [updV_ne _ _ _ _ (by omega)]; exact hM.l27
  case l28 => rw [updV_ne _ _ _ _ (by omega)]; exact hM.l28
  case l30 => rw [updV_ne _ _ _ _ (by omega)]; exact hM.l30
  case l31 => rw [updV_ne _ _ _ _ (by omega)]; exact hM.l31
  case l32 => rw [updV_ne _ _ _ _ (by omega)]; exact hM.l32
theorem Ms.setCalIn {s inp : ByteArray} {n bb bF cF base k : Nat} {m : Im.St} {L : Nat → Value} {w : World} (hM : Ms s inp n bb bF cF base m k L w) (l : List (Nat × Nat)) (v : Value) (ho : w.ownsRow base 86 2 v l.length (prs l)) : Ms s inp n bb bF cF base { m with cal := l } k (updV L 23 v) (w.setCell ⟨bb, 23, none⟩ v) := by
  have low : ∀ {e : TypeId} {size : Nat} {x : Value} {q : Nat} {xs : List Value}, w.ownsRow base e size x q xs → (w.setCell ⟨bb, 23, none⟩ v).ownsRow base e size x q xs := fun h => ownsRow_setCell_below h (by exact hM.hbb) _
  constructor
  case bx => exact hM.bx.set _ _ (by omega)
  case rs => rw [updV_ne _ _ _ _ (by omega)]; exact low hM.rs
  case rc => rw [updV_at]; exact low ho
  case re => rw [updV_ne _ _ _ _ (by omega)]; exact low hM.re
  case dse => rw [updV_ne _ _ _ _ (by omega), updV_ne _ _ _ _ (by omega)]; exact hM.dse
  case fc => exact fun f hf => (World.cell?_of_block (a := ⟨bF, f * 2, none⟩) (Below.heap_setCell _ _ _ _ hM.hne)).trans (hM.fc f hf)
  case lc => exact fun i hi => by rw [updV_ne _ _ _ _ (by omega)]; exact hM.lc i hi
  case hbb => exact hM.hbb
  case hbF => exact hM.hbF
  case hne => exact hM.hne
  case hba => simpa using hM.hba
  case l0 => rw [updV_ne _ _ _ _ (by omega)]; exact hM.l0
  case l1 => rw [updV_ne _ _ _ _ (by omega)]; exact hM.l1
  case l2 => rw [updV_ne _ _ _ _ (by omega)]; exact hM.l2
  case l3 => rw [updV_ne _ _ _ _ (by omega)]; exact hM.l3
  case l4 => rw [updV_ne _ _ _ _ (by omega)]; exact hM.l4
  case l5 => rw [updV_ne _ _ _ _ (by omega)]; exact hM.l5
  case l24 => rw [updV_ne _ _ _ _ (by omega)]; exact hM.l24
  case l25 => rw [updV_ne _ _ _ _ (by omega)]; exact hM.l25
  case l26 => rw [updV_ne _ _ _ _ (by omega)]; exact hM.l26
  case l27 => rw [updV_ne _ _ _ _ (by omega)]; exact hM.l27
  case l28 => rw [updV_ne _ _ _ _ (by omega)]; exact hM.l28
  case l30 => rw [updV_ne _ _ _ _ (by omega)]; exact hM.l30
  case l31 => rw [updV_ne _ _ _ _ (by omega)]; exact hM.l31
  case l32 => rw [updV_ne _ _ _ _ (by omega)]; exact hM.l32
theorem Ms.setEdgIn {s inp : ByteArray} {n bb bF cF base k : Nat} {m : Im.St} {L : Nat → Value} {w : World} (hM : Ms s inp n bb bF cF base m k L w) (E : Nat → Bool) (v : Value) (ho : w.ownsRow base 3 1 v (Im.el E).length (ints (Im.el E))) (hd : (L 6).ownBlock = none ∨ (L 6).ownBlock ≠ v.ownBlock) : Ms s inp n bb bF cF base { m with edg := E } k (updV L 29 v) (w.setCell ⟨bb, 29, none⟩ v) := by
  have low : ∀ {e : TypeId} {size : Nat} {x : Value} {q : Nat} {xs : List Value}, w.ownsRow base e size x q xs → (w.setCell ⟨bb, 29, none⟩ v).ownsRow base e size x q xs := fun h => ownsRow_setCell_below h (by exact hM.hbb) _
  constructor
  case bx => exact hM.bx.set _ _ (by omega)
  case rs => rw [updV_ne _ _ _ _ (by omega)]; exact low hM.rs
  case rc => rw [updV_ne _ _ _ _ (by omega)]; exact low hM.rc
  case re => rw [updV_at]; exact low ho
  case dse => rw [updV_at, updV_ne _ _ _ _ (by omega)]; exact hd
  case fc => exact fun f hf => (World.cell?_of_block (a := ⟨bF, f * 2, none⟩) (Below.heap_setCell _ _ _ _ hM.hne)).trans (hM.fc f hf)
  case lc => exact fun i hi => by rw [updV_ne _ _ _ _ (by omega)]; exact hM.lc i hi
  case hbb => exact hM.hbb
  case hbF => exact hM.hbF
  case hne => exact hM.hne
  case hba => simpa using hM.hba
  case l0 => rw [updV_ne _ _ _ _ (by omega)]; exact hM.l0
  case l1 => rw [updV_ne _ _ _ _ (by omega)]; exact hM.l1
  case l2 => rw [updV_ne _ _ _ _ (by omega)]; exact hM.l2
  case l3 => rw [updV_ne _ _ _ _ (by omega)]; exact hM.l3
  case l4 => rw [updV_ne _ _ _ _ (by omega)]; exact hM.l4
  case l5 => rw [updV_ne _ _ _ _ (by omega)]; exact hM.l5
  case l24 => rw [updV_ne _ _ _ _ (by omega)]; exact hM.l24
  case l25 => rw [updV_ne _ _ _ _ (by omega)]; exact hM.l25
  case l26 => rw [updV_ne _ _ _ _ (by omega)]; exact hM.l26
  case l27 => rw [updV_ne _ _ _ _ (by omega)]; exact hM.l27
  case l28 => rw [updV_ne _ _ _ _ (by omega)]; exact hM.l28
  case l30 => rw [updV_ne _ _ _ _ (by omega)]; exact hM.l30
  case l31 => rw [updV_ne _ _ _ _ (by omega)]; exact hM.l31
  case l32 => rw [updV_ne _ _ _ _ (by omega)]; exact hM.l32

theorem Ms.grownS {s inp : ByteArray} {n bb bF cF base k : Nat} {m : Im.St} {L : Nat → Value} {w : World} {w1 : World} (hM : Ms s inp n bb bF cF base m k L w) (hg : w.grownBy w1 (L 6).ownBlock) (l : List Nat) (v : Value) (ho : w1.ownsRow base 3 1 v l.length (ints l)) (hf : Fresh w (L 6) v) :
    Ms s inp n bb bF cF base { m with stk := l } k (updV L 6 v) (w1.setCell ⟨bb, 6, none⟩ v) ∧ Kx base bb w (w1.setCell ⟨bb, 6, none⟩ v) := by
  have hrow : ∀ j, (L 6).ownBlock = some j → base ≤ j ∧ j < w.heap.size := hM.rs.lt
  have hbb : some bb ≠ (L 6).ownBlock := fun e => by have := (hrow bb e.symm).1; have := hM.hbb; omega
  have hbF : some bF ≠ (L 6).ownBlock := fun e => by have := (hrow bF e.symm).1; have := hM.hbF; omega
  have low : ∀ {e : TypeId} {size : Nat} {x : Value} {q : Nat} {xs : List Value}, w1.ownsRow base e size x q xs → (w1.setCell ⟨bb, 6, none⟩ v).ownsRow base e size x q xs := fun h => ownsRow_setCell_below h (by exact hM.hbb) _
  have hrc : (L 23).ownBlock = none ∨ (L 23).ownBlock ≠ (L 6).ownBlock := owns_kind hM.rc hM.rs (by decide)
  have hre : (L 29).ownBlock = none ∨ (L 29).ownBlock ≠ (L 6).ownBlock := by
    rcases hM.dse with h | h
    · rcases hx : (L 29).ownBlock with _ | x
      · left; rfl
      · right; rw [h]; simp
    · right; exact fun e => h e.symm
  refine ⟨?_, ((Kx.refl base bb w).grown hg hM.hba (fun j hj => (hrow j hj).1)).set _ _⟩
  constructor
  case bx => exact (hM.bx.grown hg hbb).set _ _ (by omega)
  case rs => rw [updV_at]; exact low ho
  case rc => rw [updV_ne _ _ _ _ (by omega)]; exact low (hM.rc.kept hg hrc)
  case re => rw [updV_ne _ _ _ _ (by omega)]; exact low (hM.re.kept hg hre)
  case dse => 
    rw [updV_at, updV_ne _ _ _ _ (by omega)]
    rcases hv : v.ownBlock with _ | x
    · left; rfl
    · right
      intro e
      rcases hf x hv with h | h
      · rcases hM.dse with h' | h'
        · rw [h'] at h; simp at h
        · exact h' (h.trans e)
      · have := (hM.re.lt x e.symm).2; omega
  case fc => exact fun f hf => (World.cell?_of_block (a := ⟨bF, f * 2, none⟩) (Below.heap_setCell _ _ _ _ hM.hne)).trans (hg.cell (hM.fc f hf) hbF)
  case lc => exact fun i hi => by rw [updV_ne _ _ _ _ (by omega)]; exact hM.lc i hi
  case hbb => exact hM.hbb
  case hbF => exact hM.hbF
  case hne => exact hM.hne
  case hba => have := hM.hba; have := hg.size; simp; omega
  case l0 => rw [updV_ne _ _ _ _ (by omega)]; exact hM.l0
  case l1 => rw [updV_ne _ _ _ _ (by omega)]; exact hM.l1
  case l2 => rw [updV_ne _ _ _ _ (by omega)]; exact hM.l2
  case l3 => rw [updV_ne _ _ _ _ (by omega)]; exact hM.l3
  case l4 => rw [updV_ne _ _ _ _ (by omega)]; exact hM.l4
  case l5 => rw [updV_ne _ _ _ _ (by omega)]; exact hM.l5
  case l24 => rw [updV_ne _ _ _ _ (by omega)]; exact hM.l24
  case l25 => rw [updV_ne _ _ _ _ (by omega)]; exact hM.l25
  case l26 => rw [updV_ne _ _ _ _ (by omega)]; exact hM.l26
  case l27 => rw [updV_ne _ _ _ _ (by omega)]; exact hM.l27
  case l28 => rw [updV_ne _ _ _ _ (by omega)]; exact hM.l28
  case l30 => rw [updV_ne _ _ _ _ (by omega)]; exact hM.l30
  case l31 => rw [updV_ne _ _ _ _ (by omega)]; exact hM.l31
  case l32 => rw [updV_ne _ _ _ _ (by omega)]; exact hM.l32
theorem Ms.grownC {s inp : ByteArray} {n bb bF cF base k : Nat} {m : Im.St} {L : Nat → Value} {w : World} {w1 : World} (hM : Ms s inp n bb bF cF base m k L w) (hg : w.grownBy w1 (L 23).ownBlock) (l : List (Nat × Nat)) (v : Value) (ho : w1.ownsRow base 86 2 v l.length (prs l)) (_hf : Fresh w (L 23) v) :
    Ms s inp n bb bF cF base { m with cal := l } k (updV L 23 v) (w1.setCell ⟨bb, 23, none⟩ v) ∧ Kx base bb w (w1.setCell ⟨bb, 23, none⟩ v) := by
  have hrow : ∀ j, (L 23).ownBlock = some j → base ≤ j ∧ j < w.heap.size := hM.rc.lt
  have hbb : some bb ≠ (L 23).ownBlock := fun e => by have := (hrow bb e.symm).1; have := hM.hbb; omega
  have hbF : some bF ≠ (L 23).ownBlock := fun e => by have := (hrow bF e.symm).1; have := hM.hbF; omega
  have low : ∀ {e : TypeId} {size : Nat} {x : Value} {q : Nat} {xs : List Value}, w1.ownsRow base e size x q xs → (w1.setCell ⟨bb, 23, none⟩ v).ownsRow base e size x q xs := fun h => ownsRow_setCell_below h (by exact hM.hbb) _
  have hrs : (L 6).ownBlock = none ∨ (L 6).ownBlock ≠ (L 23).ownBlock := owns_kind hM.rs hM.rc (by decide)
  have hre : (L 29).ownBlock = none ∨ (L 29).ownBlock ≠ (L 23).ownBlock := owns_kind hM.re hM.rc (by decide)
  refine ⟨?_, ((Kx.refl base bb w).grown hg hM.hba (fun j hj => (hrow j hj).1)).set _ _⟩
  constructor
  case bx => exact (hM.bx.grown hg hbb).set _ _ (by omega)
  case rs => rw [updV_ne _ _ _ _ (by omega)]; exact low (hM.rs.kept hg hrs)
  case rc => rw [updV_at]; exact low ho
  case re => rw [updV_ne _ _ _ _ (by omega)]; exact low (hM.re.kept hg hre)
  case dse => rw [updV_ne _ _ _ _ (by omega), updV_ne _ _ _ _ (by omega)]; exact hM.dse
  case fc => exact fun f hf => (World.cell?_of_block (a := ⟨bF, f * 2, none⟩) (Below.heap_setCell _ _ _ _ hM.hne)).trans (hg.cell (hM.fc f hf) hbF)
  case lc => exact fun i hi => by rw [updV_ne _ _ _ _ (by omega)]; exact hM.lc i hi
  case hbb => exact hM.hbb
  case hbF => exact hM.hbF
  case hne => exact hM.hne
  case hba => have := hM.hba; have := hg.size; simp; omega
  case l0 => rw [updV_ne _ _ _ _ (by omega)]; exact hM.l0
  case l1 => rw [updV_ne _ _ _ _ (by omega)]; exact hM.l1
  case l2 => rw [updV_ne _ _ _ _ (by omega)]; exact hM.l2
  case l3 => rw [updV_ne _ _ _ _ (by omega)]; exact hM.l3
  case l4 => rw [updV_ne _ _ _ _ (by omega)]; exact hM.l4
  case l5 => rw [updV_ne _ _ _ _ (by omega)]; exact hM.l5
  case l24 => rw [updV_ne _ _ _ _ (by omega)]; exact hM.l24
  case l25 => rw [updV_ne _ _ _ _ (by omega)]; exact hM.l25
  case l26 => rw [updV_ne _ _ _ _ (by omega)]; exact hM.l26
  case l27 => rw [updV_ne _ _ _ _ (by omega)]; exact hM.l27
  case l28 => rw [updV_ne _ _ _ _ (by omega)]; exact hM.l28
  case l30 => rw [updV_ne _ _ _ _ (by omega)]; exact hM.l30
  case l31 => rw [updV_ne _ _ _ _ (by omega)]; exact hM.l31
  case l32 => rw [updV_ne _ _ _ _ (by omega)]; exact hM.l32

/-- 'n & 255'. -/
theorem wrap_small (t : Nat) (h : t < 256) : IntKind.wrap .i64 (t : Int) = (t : Int) := by
  unfold IntKind.wrap
  have p : ((2 : Int) ^ IntKind.bits .i64) = 18446744073709551616 := by decide
  have p2 : ((2 : Int) ^ (IntKind.bits .i64 - 1)) = 9223372036854775808 := by decide
  rw [p, p2]
  have e : (t : Int) % 18446744073709551616 = t := by omega
  simp only [e]
  rw [if_neg]
  simp only [Bool.and_eq_true, decide_eq_true_eq, not_and]
  intro _
  omega
theorem and255 (x : Int) : bits .and .i64 x 255 = x % 256 := by
  have h1 : (BitVec.ofInt 64 x &&& BitVec.ofInt 64 255).toNat = (x % 18446744073709551616).toNat % 256 := by
    rw [BitVec.toNat_and, BitVec.toNat_ofInt, BitVec.toNat_ofInt]
    have e : ((255 : Int) % ((2 ^ 64 : Nat) : Int)).toNat = 2 ^ 8 - 1 := by decide
    have e2 : ((2 ^ 64 : Nat) : Int) = 18446744073709551616 := by decide
    rw [e, Nat.and_two_pow_sub_one_eq_mod, e2]
  show IntKind.wrap .i64 ((BitVec.ofInt 64 x &&& BitVec.ofInt 64 255).toNat : Int) = _
  rw [h1, wrap_small _ (by omega)]
  omega

theorem owns_mono {w : World} {base base' : Nat} {e : TypeId} {size : Nat} {v : Value} {n : Nat} {xs : List Value} (h : w.ownsRow base e size v n xs) (hb : base' ≤ base) : w.ownsRow base' e size v n xs := by
  obtain ⟨hl, h | ⟨g, cap, cur, h1, h2, h3⟩⟩ := h
  · exact ⟨hl, Or.inl h⟩
  · exact ⟨hl, Or.inr ⟨g, cap, cur, h1, by omega, h3⟩⟩
theorem Ms.below {s inp : ByteArray} {n bb bF cF base k : Nat} {m : Im.St} {L : Nat → Value} {w w1 : World} (hM : Ms s inp n bb bF cF base m k L w) (hb : Below w.heap.size w w1) : Ms s inp n bb bF cF base m k L w1 := by
  have hg : w.grownBy w1 none := ⟨hb.os, hb.tape, hb.output, hb.size, fun j hj _ => hb.block j hj⟩
  exact { hM with bx := hM.bx.grown hg (by simp), rs := hM.rs.kept hg (by cases (L 6).ownBlock <;> simp), rc := hM.rc.kept hg (by cases (L 23).ownBlock <;> simp), re := hM.re.kept hg (by cases (L 29).ownBlock <;> simp), fc := fun f hf => hg.cell (hM.fc f hf) (by simp), hba := Nat.le_trans hM.hba hb.size }
theorem Kx.below {B b : Nat} {w w1 w2 : World} (h : Kx B b w w1) (hb : Below w1.heap.size w1 w2) (hB : B ≤ w1.heap.size) : Kx B b w w2 :=
  h.trans ⟨hb.os, hb.tape, hb.output, hb.size, fun j hj _ => hb.block j (by omega)⟩

/-- how pop ends. -/
def PopPost (s inp : ByteArray) (n bb bF cF base : Nat) (m : Im.St) (k : Nat) (w w' : World) (e : Ending) : Prop :=
  e = .returned (.int .i64 (Im.top m.stk : Nat)) ∧ (∃ L', Ms s inp n bb bF cF base { m with stk := m.stk.take (m.stk.length - 1) } k L' w') ∧ Kx base bb w w'

set_option maxHeartbeats 1600000 in
set_option maxRecDepth 100000 in
theorem pop_any (s inp : ByteArray) (n bb bF cF base k : Nat) (m : Im.St) (L : Nat → Value) (w : World) (hM : Ms s inp n bb bF cF base m k L w) (hl : 0 < m.stk.length) (hl2 : m.stk.length ≤ 100) :
    Calls Tryz.prog 94 #[.pointer (some ⟨bb, 0, none⟩)] w fun e w' => PopPost s inp n bb bF cF base m k w w' e := by
  obtain ⟨g, cap, hv, hgb, hnc, hcm, hgl, hcells⟩ := owns_some hM.rs hl
  have c6 := hM.bx.cell 6 (by omega)
  rw [hv] at c6
  have ct := hcells (m.stk.length - 1) _ (ints_get m.stk (m.stk.length - 1) (by omega))
  have hf6 := hM.bx.frz 6
  have hgne : g ≠ bb := by have := hM.hbb; omega
  have HP : Hid (∀ nq, PopPost s inp n bb bF cF base m k w ((w.setCell ⟨bb, 6, none⟩ (.slice (some ⟨g, 0, none⟩) (m.stk.length - 1) cap)).drewN nq) (.returned (.int .i64 (m.stk[m.stk.length - 1]?.getD 0 : Nat)))) := by
    intro nq
    refine ⟨rfl, ⟨updV L 6 (.slice (some ⟨g, 0, none⟩) (m.stk.length - 1) cap), ?_⟩, ((Kx.refl base bb w).set _ _).drewN _⟩
    have hrs := hM.rs
    rw [hv] at hrs
    refine (hM.setStkIn _ _ ?_ ?_).drewN nq
    · rw [ints_take, List.length_take, Nat.min_eq_left (by omega)]
      exact owns_take hrs (by omega)
    · have := hM.dse
      rw [hv] at this
      exact this
  clear hcells hM hv
  generalize m.stk[m.stk.length - 1]?.getD 0 = x at *
  obtain ⟨q, hq⟩ : ∃ q, m.stk.length = q + 1 := ⟨m.stk.length - 1, by omega⟩
  rw [hq] at c6 ct HP hnc hl2
  rw [Nat.add_sub_cancel] at ct HP
  unfold maxLen at hcm
  clear hq hl
  go_enter Tryz.func94, Tryz.ntmps94
  go_wp2
  go_quiet (fail)
  go_wp2
  go_region
  go_wp2
  go_ret
  exact HP.out _

/-- how push ends. -/
def PushPost (s inp : ByteArray) (n bb bF cF base : Nat) (m : Im.St) (k y : Nat) (w w' : World) (e : Ending) : Prop :=
  e = .returned (.tuple #[]) ∧ (∃ L', Ms s inp n bb bF cF base { m with stk := m.stk ++ [y] } k L' w') ∧ Kx base bb w w'

set_option maxHeartbeats 1600000 in
set_option maxRecDepth 100000 in
theorem push_any (s inp : ByteArray) (n bb bF cF base k : Nat) (m : Im.St) (L : Nat → Value) (x : Int) (y : Nat) (w : World) (hM : Ms s inp n bb bF cF base m k L w) (hl2 : m.stk.length ≤ 100) (hy : x % 256 = (y : Int)) :
    Calls Tryz.prog 93 #[.pointer (some ⟨bb, 0, none⟩), .int .i64 x] w fun e w' => PushPost s inp n bb bF cF base m k y w w' e := by
  obtain ⟨i0, hi, hz0, hz1, hz2⟩ := info_parts Tryz.infoInt
  have c6 := hM.bx.cell 6 (by omega)
  have hf6 := hM.bx.frz 6
  have hbits : bits .and .i64 x 255 = (y : Int) := (and255 x).trans hy
  have hown := hM.rs
  have hba := hM.hba
  have hbb := hM.hbb
  have hbl := hM.bx.lt
  have HM : Hid (Ms s inp n bb bF cF base m k L w) := hM
  clear hM hy
  generalize hv6 : L 6 = v6 at *
  have HV : Hid (L 6 = v6) := hv6
  clear hv6
  go_enter Tryz.func93, Tryz.ntmps93
  go_wp2_with (at_builtin; refine wpList_append_fresh rfl _ _ 32 rfl base 3 i0 (.int .i64 0) 1 8 Tryz.undInts hi hz0 hz1 hz2 rfl (by decide) _ _ _ rfl (hown.alloc _) ⟨w.heap.size, 0, none⟩ 1 1 [.int .i64 y] rfl rfl ?c1 ?c2 ?c3 ?c4 ?c5 ?_)
  case c1 =>
    intro i u hj
    match i, hj with
    | 0, hj => simp at hj; subst hj; simp [Addr.add]
  case c2 => intro u hu; simp at hu; subst hu; rfl
  case c3 => unfold maxLen; omega
  case c4 => omega
  case c5 => simp; omega
  · intro v' w1 hown' hgrow hfr
    have hrow : some bb ≠ v6.ownBlock := fun e => by have := (hown.lt bb e.symm).1; omega
    have c6' : w1.cell? ⟨bb, 6, none⟩ = some v6 := hgrow.cell ((World.cell?_alloc_lt _ _ ⟨bb, 6, none⟩ hbl).trans c6) hrow
    have f6' : w1.frozen? ⟨bb, 6, none⟩ = false := (World.frozen?_of_block (a := ⟨bb, 6, none⟩) (hgrow.block bb (by simp; omega) hrow)).trans ((World.frozen?_alloc_old _ _ ⟨bb, 6, none⟩ (Nat.ne_of_lt hbl)).trans hf6)
    have HP : Hid (PushPost s inp n bb bF cF base m k y w (w1.setCell ⟨bb, 6, none⟩ v') (.returned (.tuple #[]))) := by
      have hA := HM.out.alloc (.cells #[.int .i64 y] 3)
      have hs := hA.grownS (w1 := w1) (by rw [HV.out]; exact hgrow) (m.stk ++ [y]) v' (by simpa [ints] using hown') (by rw [HV.out]; exact hfr)
      exact ⟨rfl, ⟨_, hs.1⟩, ((Kx.refl base bb w).alloc hba _).trans hs.2⟩
    obtain ⟨g', cap', hv', -⟩ := owns_some hown' (by omega)
    clear hown' hgrow hfr hown
    subst hv'
    go_wp2
    go_end0
    exact HP.out
end Go.Proofs.YtjhjkdcophcgaaaGreatDoor

/-
  THE DOCUMENT's SIDE (package triageref): edge. By the verifier of the loop 'triage'.
-/
namespace Go.Proofs.YtjhjkdcophcgaaaGreatDoor
open Go.RowKit

theorem owns_shape {w : World} {base : Nat} {e : TypeId} {size : Nat} {v : Value} {n : Nat} {xs : List Value} (h : w.ownsRow base e size v n xs) :
    ∃ ao cap, v = .slice ao n cap ∧ n ≤ cap ∧ cap ≤ maxLen ∧ (0 < n → ∃ g, ao = some ⟨g, 0, none⟩ ∧ base ≤ g ∧ g < w.heap.size ∧ ∀ j u, xs[j]? = some u → w.cell? ⟨g, j, none⟩ = some u) := by
  by_cases hn : 0 < n
  · obtain ⟨g, cap, hv, h1, h2, h3, h4, h5⟩ := owns_some h hn
    exact ⟨_, cap, hv, h2, h3, fun _ => ⟨g, rfl, h1, h4, h5⟩⟩
  · obtain ⟨_, ⟨hv, h0⟩ | ⟨g, cap, cur, hv, _, _, h1, h2, _⟩⟩ := h
    · exact ⟨none, 0, by rw [hv, h0], by omega, by unfold maxLen; omega, fun h => absurd h hn⟩
    · exact ⟨_, cap, hv, h1, h2, fun h => absurd h hn⟩

/-- how edge ends. -/
def EdgePost (s inp : ByteArray) (n bb bF cF base : Nat) (m : Im.St) (k e : Nat) (w w' : World) (en : Ending) : Prop :=
  en = .returned (.tuple #[]) ∧ (∃ L', Ms s inp n bb bF cF base { m with edg := Im.up m.edg e } k L' w') ∧ Kx base bb w w'

theorem edge_same {s inp : ByteArray} {n bb bF cF base k : Nat} {m : Im.St} {L : Nat → Value} {w w1 : World} (e : Nat) (hM : Ms s inp n bb bF cF base m k L w) (hE : m.edg e = true) (hb : Below w.heap.size w w1) : EdgePost s inp n bb bF cF base m k e w w1 (.returned (.tuple #[])) := by
  have hu : Im.up m.edg e = m.edg := by
    funext i; unfold Im.up; split
    · next hi => rw [hi, hE]
    · rfl
  refine ⟨rfl, ⟨L, ?_⟩, (Kx.refl base bb w).below hb hM.hba⟩
  rw [hu]
  exact hM.below hb
theorem edge_new {s inp : ByteArray} {n bb bF cF base k : Nat} {m : Im.St} {L : Nat → Value} {w w1 : World} (e : Nat) (v : Value) (hM : Ms s inp n bb bF cF base m k L w) (he : e < 400) (hb : Below w.heap.size w w1)
    (ho : w1.ownsRow w.heap.size 3 1 v (Im.elLo m.edg e ++ e :: Im.elHi m.edg e).length (ints (Im.elLo m.edg e ++ e :: Im.elHi m.edg e))) : EdgePost s inp n bb bF cF base m k e w (w1.setCell ⟨bb, 29, none⟩ v) (.returned (.tuple #[])) := by
  rw [← Im.el_new m.edg e he] at ho
  refine ⟨rfl, ⟨_, (hM.below hb).setEdgIn (Im.up m.edg e) v (owns_mono ho hM.hba) ?_⟩, ((Kx.refl base bb w).below hb hM.hba).set _ _⟩
  rcases h6 : (L 6).ownBlock with _ | x
  · left; rfl
  · right
    intro hx
    have h1 := (hM.rs.lt x h6).2
    have h2 := (ho.lt x hx.symm).1
    omega

theorem snoc_owns {w : World} {base : Nat} {v : Value} {l : List Nat} {x : Nat} (h : w.ownsRow base 3 1 v (l.length + 1) (ints l ++ [.int .i64 (x : Int)])) : w.ownsRow base 3 1 v (l ++ [x]).length (ints (l ++ [x])) := by
  simpa [ints] using h
theorem take_snoc' (l : List Nat) (k : Nat) (h : k < l.length) : l.take (k + 1) = l.take k ++ [l[k]?.getD 0] := by
  rw [List.take_add_one, List.getElem?_eq_getElem h]; rfl

set_option maxHeartbeats 3200000 in
set_option maxRecDepth 100000 in
theorem edge_old (s inp : ByteArray) (n bb bF cF base k e : Nat) (m : Im.St) (L : Nat → Value) (w : World) (hM : Ms s inp n bb bF cF base m k L w) (he : e < 400) (hE : m.edg e = true) :
    Calls Tryz.prog 105 #[.pointer (some ⟨bb, 0, none⟩), .int .i64 e] w fun en w' => EdgePost s inp n bb bF cF base m k e w w' en := by
  obtain ⟨i0, hi, hz0, hz1, hz2⟩ := info_parts Tryz.infoInt
  have HP : Hid (∀ w1, Below w.heap.size w w1 → EdgePost s inp n bb bF cF base m k e w w1 (.returned (.tuple #[]))) := fun w1 hb => edge_same e hM hE hb
  obtain ⟨ao, cap, hv, hnc, hcm, hcl⟩ := owns_shape hM.re
  have c29 := hM.bx.cell 29 (by omega)
  rw [hv] at c29
  have hbl := hM.bx.lt
  have hX : e ∈ Im.el m.edg := (Im.el_mem m.edg e he).2 hE
  have hXl := Im.el_len m.edg
  -- the place of e
  have hlo : Im.el m.edg = Im.elLo m.edg e ++ e :: Im.elHi m.edg e := by rw [← Im.el_new m.edg e he, Im.el_old m.edg e hE]
  have HLO : Hid (∀ j, j < (Im.elLo m.edg e).length → (Im.el m.edg)[j]?.getD 0 < e) := by
    intro j hj
    rw [hlo, List.getElem?_append_left hj, List.getElem?_eq_getElem hj]
    exact Im.elLo_lt m.edg e _ (List.getElem_mem hj)
  have HAT : Hid ((Im.el m.edg)[(Im.elLo m.edg e).length]?.getD 0 = e) := by
    show (Im.el m.edg)[(Im.elLo m.edg e).length]?.getD 0 = e
    rw [hlo, List.getElem?_append_right (Nat.le_refl _)]; simp
  have hpl : (Im.elLo m.edg e).length < (Im.el m.edg).length := by
    have := congrArg List.length hlo
    simp at this
    omega
  have hcells : ∀ g, ao = some ⟨g, 0, none⟩ → True := fun _ _ => trivial
  obtain ⟨g, hao, hgb, hgl, hcl2⟩ := hcl (by omega)
  subst hao
  have HC : Hid (∀ j, j < (Im.el m.edg).length → w.cell? ⟨g, j, none⟩ = some (.int .i64 ((Im.el m.edg)[j]?.getD 0 : Nat))) := fun j hj => hcl2 j _ (ints_get _ j hj)
  clear hcl hcl2 hM hv hX hE hlo hcells
  generalize (Im.elLo m.edg e).length = p at *
  generalize Im.el m.edg = X at *
  obtain ⟨len, HLEN⟩ : ∃ len, Hid (X.length = len) := ⟨_, rfl⟩
  rw [HLEN.out] at c29 hnc hXl HC hpl
  unfold maxLen at hcm
  go_enter Tryz.func105, Tryz.ntmps105
  go_wp2
  go_loopw [4, 5, 6] (fun v d i wr => ∃ j : Nat, i = .int .i64 j ∧ d = .bool false ∧ j ≤ p ∧ wr.ownsRow w.heap.size 3 1 v (X.take j).length (ints (X.take j)) ∧ Below w.heap.size w wr)
    (fun _ _ i _ => len - (intOf i).toNat)
  case atStart => exact ⟨0, rfl, rfl, by omega, by simpa using World.ownsRow_nil _ _ _ _, Below.refl _ _⟩
  case round =>
    obtain ⟨j, rfl, rfl, hj, hown, hb⟩ := hrel
    have c29r := (hb.cell (p := ⟨bb, 29, none⟩) hbl).trans c29
    have cj := (hb.cell (p := ⟨g, j, none⟩) hgl).trans (HC.out j (by omega))
    have hlt : j < len := by omega
    by_cases hjp : j = p
    · subst hjp
      have hx : ((((X[j]?.getD 0 : Nat) : Int)) == (e : Int)) = true := by rw [HAT.out]; simp
      have HB : Hid (Below w.heap.size w wr) := hb
      generalize X[j]?.getD 0 = x at *
      go_wp2
      first
        | (go_end0; exact HP.out _ HB.out)
        | exact bodyPost_ret (v := .tuple #[]) (by simp [results, Tryz.results105, go_sem]) rfl (HP.out _ HB.out)
    · have hlx := HLO.out j (by omega)
      have hx : ((((X[j]?.getD 0 : Nat) : Int)) == (e : Int)) = false := by rw [beq_eq_false_iff_ne]; omega
      have HT : Hid (X.take (j + 1) = X.take j ++ [X[j]?.getD 0]) := take_snoc' X j (by rw [HLEN.out]; exact hlt)
      have hll : (X.take j).length ≤ 400 := by have := List.length_take_le j X; omega
      generalize X[j]?.getD 0 = x at *
      go_wp2_with (at_builtin; refine wpList_append_own _ rfl _ _ 32 rfl w.heap.size 3 i0 (.int .i64 0) 1 8 Tryz.undInts hi hz0 hz1 hz2 rfl (by decide) _ _ _ rfl (hown.alloc _) ⟨wr.heap.size, 0, none⟩ 1 1 [.int .i64 x] rfl rfl ?c1 ?c2 ?c3 ?c4 ?c5 ?_)
      case c1 =>
        intro i u hj
        match i, hj with
        | 0, hj => simp at hj; subst hj; simp [Addr.add]
      case c2 => intro u hu; simp at hu; subst hu; rfl
      case c3 => unfold maxLen; omega
      case c4 => omega
      case c5 => have := hb.size; simp; omega
      · intro v' w1 hown' hgrow _
        have hb1 := below_app hown hgrow hb hb.size
        have ho1 : w1.ownsRow w.heap.size 3 1 v' (X.take (j + 1)).length (ints (X.take (j + 1))) := by rw [HT.out]; simpa [ints] using hown'
        clear hown' hgrow hown hb
        go_wp2
        go_roundw
        case rel => exact ⟨j + 1, by go_num, rfl, by omega, ho1, hb1⟩
        case measure => simp [intOf]; omega
end Go.Proofs.YtjhjkdcophcgaaaGreatDoor

/-
  THE DOCUMENT's SIDE (package triageref): edge, one that is new. By the verifier of the loop 'triage'.
-/
namespace Go.Proofs.YtjhjkdcophcgaaaGreatDoor
open Go.RowKit

/-- what edge has gathered behind j elements. -/
def accE (lo hi : List Nat) (e j : Nat) : List Nat := if j ≤ lo.length then lo.take j else lo ++ e :: hi.take (j - lo.length)
theorem accE_lo (lo hi : List Nat) (e j : Nat) (h : j < lo.length) : accE lo hi e (j + 1) = accE lo hi e j ++ [(lo ++ hi)[j]?.getD 0] := by
  unfold accE
  rw [if_pos (by omega), if_pos (by omega), List.take_add_one, List.getElem?_append_left h, List.getElem?_eq_getElem h]; rfl
theorem accE_at (lo hi : List Nat) (e : Nat) (h : 0 < hi.length) : accE lo hi e (lo.length + 1) = (accE lo hi e lo.length ++ [e]) ++ [(lo ++ hi)[lo.length]?.getD 0] := by
  unfold accE
  rw [if_neg (by omega), if_pos (Nat.le_refl _), List.take_length, List.getElem?_append_right (Nat.le_refl _), Nat.sub_self, Nat.add_sub_cancel_left]
  cases hi with
  | nil => simp at h
  | cons a r => simp
theorem accE_hi (lo hi : List Nat) (e j : Nat) (h : lo.length < j) (h2 : j < (lo ++ hi).length) : accE lo hi e (j + 1) = accE lo hi e j ++ [(lo ++ hi)[j]?.getD 0] := by
  unfold accE
  have h3 : j - lo.length < hi.length := by simp at h2; omega
  rw [if_neg (by omega), if_neg (by omega), show j + 1 - lo.length = (j - lo.length) + 1 by omega, List.take_add_one, List.getElem?_append_right (by omega), List.getElem?_eq_getElem h3]
  simp
theorem accE_end (lo hi : List Nat) (e : Nat) : (if (lo ++ hi).length ≤ lo.length then accE lo hi e (lo ++ hi).length ++ [e] else accE lo hi e (lo ++ hi).length) = lo ++ e :: hi := by
  by_cases h : (lo ++ hi).length ≤ lo.length
  · have : hi = [] := List.eq_nil_of_length_eq_zero (by simp only [List.length_append] at h; omega)
    subst this
    rw [if_pos h]
    unfold accE
    rw [if_pos h]
    simp
  · rw [if_neg h]
    unfold accE
    rw [if_neg h]
    simp
theorem accE_len (lo hi : List Nat) (e j : Nat) : (accE lo hi e j).length ≤ j + 1 := by
  unfold accE
  split
  · have := List.length_take_le j lo; omega
  · simp; omega

set_option maxHeartbeats 6400000 in
set_option maxRecDepth 100000 in
theorem edge_fresh (s inp : ByteArray) (n bb bF cF base k e : Nat) (m : Im.St) (L : Nat → Value) (w : World) (hM : Ms s inp n bb bF cF base m k L w) (he : e < 400) (hE : m.edg e = false) :
    Calls Tryz.prog 105 #[.pointer (some ⟨bb, 0, none⟩), .int .i64 e] w fun en w' => EdgePost s inp n bb bF cF base m k e w w' en := by
  obtain ⟨i0, hi, hz0, hz1, hz2⟩ := info_parts Tryz.infoInt
  have HP : Hid (∀ w1 v, Below w.heap.size w w1 → w1.ownsRow w.heap.size 3 1 v (Im.elLo m.edg e ++ e :: Im.elHi m.edg e).length (ints (Im.elLo m.edg e ++ e :: Im.elHi m.edg e)) → EdgePost s inp n bb bF cF base m k e w (w1.setCell ⟨bb, 29, none⟩ v) (.returned (.tuple #[]))) := fun w1 v hb ho => edge_new e v hM he hb ho
  obtain ⟨ao, cap, hv, hnc, hcm, hcl⟩ := owns_shape hM.re
  have c29 := hM.bx.cell 29 (by omega)
  have f29 := hM.bx.frz 29
  rw [hv] at c29
  have hbl := hM.bx.lt
  have hXl := Im.el_len m.edg
  have hX := Im.el_split m.edg e he hE
  have HLO : Hid (∀ j, j < (Im.elLo m.edg e).length → (Im.elLo m.edg e ++ Im.elHi m.edg e)[j]?.getD 0 < e) := by
    intro j hj
    rw [List.getElem?_append_left hj, List.getElem?_eq_getElem hj]
    exact Im.elLo_lt m.edg e _ (List.getElem_mem hj)
  have HHI : Hid (∀ j, (Im.elLo m.edg e).length ≤ j → j < (Im.elLo m.edg e ++ Im.elHi m.edg e).length → e < (Im.elLo m.edg e ++ Im.elHi m.edg e)[j]?.getD 0) := by
    intro j h1 h2
    have h3 : j - (Im.elLo m.edg e).length < (Im.elHi m.edg e).length := by simp at h2; omega
    rw [List.getElem?_append_right h1, List.getElem?_eq_getElem h3]
    exact Im.elHi_gt m.edg e _ (List.getElem_mem h3)
  rw [hX] at c29 hnc hXl hcl
  have HC : Hid (∀ j, j < (Im.elLo m.edg e ++ Im.elHi m.edg e).length → ∃ g, ao = some ⟨g, 0, none⟩ ∧ g < w.heap.size ∧ w.cell? ⟨g, j, none⟩ = some (.int .i64 ((Im.elLo m.edg e ++ Im.elHi m.edg e)[j]?.getD 0 : Nat))) := fun j hj => by
    obtain ⟨g, h1, _, h2, h3⟩ := hcl (by omega)
    exact ⟨g, h1, h2, h3 j _ (ints_get _ j hj)⟩
  clear hcl hM hv hE hX
  generalize Im.elLo m.edg e = lo at *
  generalize Im.elHi m.edg e = hh at *
  obtain ⟨len, HLEN⟩ : ∃ len, Hid ((lo ++ hh).length = len) := ⟨_, rfl⟩
  obtain ⟨q, HQ⟩ : ∃ q, Hid (lo.length = q) := ⟨_, rfl⟩
  have hqlen : q ≤ len := by rw [← HQ.out, ← HLEN.out]; simp
  have A1 : Hid (∀ j, j < q → accE lo hh e (j + 1) = accE lo hh e j ++ [(lo ++ hh)[j]?.getD 0]) := fun j hj => accE_lo lo hh e j (by rw [HQ.out]; exact hj)
  have A2 : Hid (q < len → accE lo hh e (q + 1) = (accE lo hh e q ++ [e]) ++ [(lo ++ hh)[q]?.getD 0]) := fun h => by
    have := accE_at lo hh e (by rw [← HQ.out, ← HLEN.out] at h; simp at h; omega)
    rw [HQ.out] at this; exact this
  have A3 : Hid (∀ j, q < j → j < len → accE lo hh e (j + 1) = accE lo hh e j ++ [(lo ++ hh)[j]?.getD 0]) := fun j h1 h2 => accE_hi lo hh e j (by rw [HQ.out]; exact h1) (by rw [HLEN.out]; exact h2)
  have A4 : Hid ((if len ≤ q then accE lo hh e len ++ [e] else accE lo hh e len) = lo ++ e :: hh) := by
    have := accE_end lo hh e
    rw [HLEN.out, HQ.out] at this; exact this
  have A5 : Hid (∀ j, (accE lo hh e j).length ≤ j + 1) := fun j => accE_len lo hh e j
  have A0 : Hid (accE lo hh e 0 = []) := by show accE lo hh e 0 = []; unfold accE; simp
  rw [HLEN.out] at c29 hnc hXl HC HHI
  rw [HQ.out] at HLO HHI
  unfold maxLen at hcm
  generalize accE lo hh e = acc at *
  generalize lo ++ hh = X at *
  generalize lo ++ e :: hh = F at *
  go_enter Tryz.func105, Tryz.ntmps105
  go_wp2
  go_loopw [4, 5, 6] (fun v d i wr => ∃ (j : Nat) (b : Bool), i = .int .i64 j ∧ d = .bool b ∧ j ≤ len ∧ Hid (b = decide (q < j)) ∧ wr.ownsRow w.heap.size 3 1 v (acc j).length (ints (acc j)) ∧ Below w.heap.size w wr)
    (fun _ _ i _ => len - (intOf i).toNat)
  case atStart => exact ⟨0, false, rfl, rfl, by omega, by show false = decide (q < 0); simp, by rw [A0.out]; exact World.ownsRow_nil _ _ _ _, Below.refl _ _⟩
  case round =>
    obtain ⟨j, b, rfl, rfl, hj, HB, hown, hb⟩ := hrel
    have c29r := (hb.cell (p := ⟨bb, 29, none⟩) hbl).trans c29
    have f29r := (hb.frozen (p := ⟨bb, 29, none⟩) hbl).trans f29
    have hal := A5.out j
    by_cases hlt : j < len
    · obtain ⟨g, hao, hgl, cj0⟩ := HC.out j hlt
      subst hao
      have cj := (hb.cell (p := ⟨g, j, none⟩) hgl).trans cj0
      clear cj0
      rcases Nat.lt_trichotomy j q with hq | hq | hq
      · have hbf : b = false := by rw [HB.out]; simp; omega
        subst hbf
        have hlx := HLO.out j hq
        have HT : Hid (acc (j + 1) = acc j ++ [X[j]?.getD 0]) := A1.out j hq
        have HB2 : Hid (false = decide (q < j + 1)) := by show false = decide (q < j + 1); simp; omega
        generalize X[j]?.getD 0 = x at *
        have hx : ((x : Int) == (e : Int)) = false := by rw [beq_eq_false_iff_ne]; omega
        clear HB
        go_wp2_with (at_builtin; refine wpList_append_own _ rfl _ _ 32 rfl w.heap.size 3 i0 (.int .i64 0) 1 8 Tryz.undInts hi hz0 hz1 hz2 rfl (by decide) _ _ _ rfl (hown.alloc _) ⟨wr.heap.size, 0, none⟩ 1 1 [.int .i64 x] rfl rfl ?c1 ?c2 ?c3 ?c4 ?c5 ?_)
        case c1 =>
          intro i u hj
          match i, hj with
          | 0, hj => simp at hj; subst hj; simp [Addr.add]
        case c2 => intro u hu; simp at hu; subst hu; rfl
        case c3 => unfold maxLen; omega
        case c4 => omega
        case c5 => have := hb.size; simp; omega
        · intro v' w1 hown' hgrow _
          have hb1 := below_app hown hgrow hb hb.size
          have ho1 : w1.ownsRow w.heap.size 3 1 v' (acc (j + 1)).length (ints (acc (j + 1))) := by rw [HT.out]; simpa [ints] using hown'
          clear hown' hgrow hown hb
          go_wp2
          go_roundw
          case rel => exact ⟨j + 1, false, by go_num, rfl, by omega, HB2, ho1, hb1⟩
          case measure => simp [intOf]; omega
      · subst hq
        have hbf : b = false := by rw [HB.out]; simp
        subst hbf
        have hlx := HHI.out j (Nat.le_refl _) hlt
        have HT : Hid (acc (j + 1) = (acc j ++ [e]) ++ [X[j]?.getD 0]) := A2.out hlt
        have HB2 : Hid (true = decide (j < j + 1)) := by show true = decide (j < j + 1); simp
        generalize X[j]?.getD 0 = x at *
        have hx : ((x : Int) == (e : Int)) = false := by rw [beq_eq_false_iff_ne]; omega
        clear HB
        go_wp2_with (at_builtin; refine wpList_append_own _ rfl (.tmp 41) (.tmp 43) 32 rfl w.heap.size 3 i0 (.int .i64 0) 1 8 Tryz.undInts hi hz0 hz1 hz2 rfl (by decide) _ _ _ rfl (hown.alloc _) ⟨wr.heap.size, 0, none⟩ 1 1 [.int .i64 e] rfl rfl ?d1 ?d2 ?d3 ?d4 ?d5 ?_)
        case d1 =>
          intro i u hj
          match i, hj with
          | 0, hj => simp at hj; subst hj; simp [Addr.add]
        case d2 => intro u hu; simp at hu; subst hu; rfl
        case d3 => unfold maxLen; omega
        case d4 => omega
        case d5 => have := hb.size; simp; omega
        · intro v' w1 hown' hgrow _
          have hb1 := below_app hown hgrow hb hb.size
          have ho1 : w1.ownsRow w.heap.size 3 1 v' ((acc j).length + 1) (ints (acc j) ++ [.int .i64 e]) := by simpa [ints] using hown'
          have c29s := (hb1.cell (p := ⟨bb, 29, none⟩) hbl).trans c29
          have cjs := (hb1.cell (p := ⟨g, j, none⟩) hgl).trans ((hb.cell (p := ⟨g, j, none⟩) hgl).symm.trans cj)
          clear hown' hgrow hown hb cj c29r f29r
          go_wp2_with (at_builtin; refine wpList_append_own _ rfl (.tmp 45) (.tmp 54) 32 rfl w.heap.size 3 i0 (.int .i64 0) 1 8 Tryz.undInts hi hz0 hz1 hz2 rfl (by decide) _ _ _ rfl (ho1.alloc _) ⟨w1.heap.size, 0, none⟩ 1 1 [.int .i64 x] rfl rfl ?e1 ?e2 ?e3 ?e4 ?e5 ?_)
          case e1 =>
            intro i u hj
            match i, hj with
            | 0, hj => simp at hj; subst hj; simp [Addr.add]
          case e2 => intro u hu; simp at hu; subst hu; rfl
          case e3 => unfold maxLen; omega
          case e4 => omega
          case e5 => have := hb1.size; simp; omega
          · intro v2 w2 hown2 hgrow2 _
            have hb2 := below_app ho1 hgrow2 hb1 hb1.size
            have ho2 : w2.ownsRow w.heap.size 3 1 v2 (acc (j + 1)).length (ints (acc (j + 1))) := by rw [HT.out]; simpa [ints] using hown2
            clear hown2 hgrow2 ho1 hb1 cjs c29s
            go_wp2
            go_roundw
            case rel => exact ⟨j + 1, true, by go_num, rfl, by omega, HB2, ho2, hb2⟩
            case measure => simp [intOf]; omega
      · have hbf : b = true := by rw [HB.out]; simp; omega
        subst hbf
        have hlx := HHI.out j (by omega) hlt
        have HT : Hid (acc (j + 1) = acc j ++ [X[j]?.getD 0]) := A3.out j hq hlt
        have HB2 : Hid (true = decide (q < j + 1)) := by show true = decide (q < j + 1); simp; omega
        generalize X[j]?.getD 0 = x at *
        have hx : ((x : Int) == (e : Int)) = false := by rw [beq_eq_false_iff_ne]; omega
        clear HB
        go_wp2_with (at_builtin; refine wpList_append_own _ rfl _ _ 32 rfl w.heap.size 3 i0 (.int .i64 0) 1 8 Tryz.undInts hi hz0 hz1 hz2 rfl (by decide) _ _ _ rfl (hown.alloc _) ⟨wr.heap.size, 0, none⟩ 1 1 [.int .i64 x] rfl rfl ?f1 ?f2 ?f3 ?f4 ?f5 ?_)
        case f1 =>
          intro i u hj
          match i, hj with
          | 0, hj => simp at hj; subst hj; simp [Addr.add]
        case f2 => intro u hu; simp at hu; subst hu; rfl
        case f3 => unfold maxLen; omega
        case f4 => omega
        case f5 => have := hb.size; simp; omega
        · intro v' w1 hown' hgrow _
          have hb1 := below_app hown hgrow hb hb.size
          have ho1 : w1.ownsRow w.heap.size 3 1 v' (acc (j + 1)).length (ints (acc (j + 1))) := by rw [HT.out]; simpa [ints] using hown'
          clear hown' hgrow hown hb
          go_wp2
          go_roundw
          case rel => exact ⟨j + 1, true, by go_num, rfl, by omega, HB2, ho1, hb1⟩
          case measure => simp [intOf]; omega
    · have hjl : j = len := by omega
      subst hjl
      by_cases hq : j ≤ q
      · have hbf : b = false := by rw [HB.out]; simp; omega
        subst hbf
        have HT : Hid (F = acc j ++ [e]) := by show F = _; rw [← A4.out, if_pos hq]
        clear HB
        go_wp2_with (at_builtin; refine wpList_append_own _ rfl _ _ 32 rfl w.heap.size 3 i0 (.int .i64 0) 1 8 Tryz.undInts hi hz0 hz1 hz2 rfl (by decide) _ _ _ rfl (hown.alloc _) ⟨wr.heap.size, 0, none⟩ 1 1 [.int .i64 e] rfl rfl ?g1 ?g2 ?g3 ?g4 ?g5 ?_)
        case g1 =>
          intro i u hj
          match i, hj with
          | 0, hj => simp at hj; subst hj; simp [Addr.add]
        case g2 => intro u hu; simp at hu; subst hu; rfl
        case g3 => unfold maxLen; omega
        case g4 => omega
        case g5 => have := hb.size; simp; omega
        · intro v' w1 hown' hgrow _
          have hb1 := below_app hown hgrow hb hb.size
          have ho1 : w1.ownsRow w.heap.size 3 1 v' F.length (ints F) := by rw [HT.out]; simpa [ints] using hown'
          have c29s := (hb1.cell (p := ⟨bb, 29, none⟩) hbl).trans c29
          have f29s := (hb1.frozen (p := ⟨bb, 29, none⟩) hbl).trans f29
          have HE := HP.out w1 v' hb1 ho1
          have HEE : Hid (EdgePost s inp n bb bF cF base m k e w (w1.setCell ⟨bb, 29, none⟩ v') (.returned (.tuple #[]))) := HE
          obtain ⟨g', cap', hv', -⟩ := owns_shape ho1
          subst hv'
          clear hown' hgrow hown hb ho1 hb1 HE c29r f29r
          go_wp2
          go_end0
          exact HEE.out
      · have hbf : b = true := by rw [HB.out]; simp; omega
        subst hbf
        have HT : Hid (F = acc j) := by show F = _; rw [← A4.out, if_neg hq]
        have ho1 : wr.ownsRow w.heap.size 3 1 u4 F.length (ints F) := by rw [HT.out]; exact hown
        have HE := HP.out wr u4 hb ho1
        have HEE : Hid (EdgePost s inp n bb bF cF base m k e w (wr.setCell ⟨bb, 29, none⟩ u4) (.returned (.tuple #[]))) := HE
        obtain ⟨g', cap', hv', -⟩ := owns_shape ho1
        subst hv'
        clear hown hb ho1 HE HB
        go_wp2
        go_end0
        exact HEE.out

theorem edge_any (s inp : ByteArray) (n bb bF cF base k e : Nat) (m : Im.St) (L : Nat → Value) (w : World) (hM : Ms s inp n bb bF cF base m k L w) (he : e < 400) :
    Calls Tryz.prog 105 #[.pointer (some ⟨bb, 0, none⟩), .int .i64 e] w fun en w' => EdgePost s inp n bb bF cF base m k e w w' en := by
  cases hE : m.edg e with
  | true => exact edge_old s inp n bb bF cF base k e m L w hM he hE
  | false => exact edge_fresh s inp n bb bF cF base k e m L w hM he hE
end Go.Proofs.YtjhjkdcophcgaaaGreatDoor

/-
  THE DOCUMENT's SIDE (package triageref): fault. By the verifier of the loop 'triage'.
-/
namespace Go.Proofs.YtjhjkdcophcgaaaGreatDoor
open Go.RowKit

theorem Tryz.infoSite : (Tryz.prog.info? 86).map (fun i => (i.zero, i.size, i.bytes)) = some (some (.agg #[.int .i64 0, .int .i64 0]), 2, 16) := by kernel_rfl
theorem Tryz.undSites : Tryz.prog.underlying 49 = some (.slice 86) := by kernel_rfl

/-- THE REPORT in the machine's struct, when the run is over. -/
structure Dn (bb base en kd fa pa k : Nat) (top : Int) (sts : List (Nat × Nat)) (E : Nat → Bool) (L : Nat → Value) (w : World) : Prop where
  bx : Bx bb 33 L w
  l24 : L 24 = .int .i64 (en : Nat)
  l25 : L 25 = .int .i64 (fa : Nat)
  l26 : L 26 = .int .i64 (pa : Nat)
  l27 : L 27 = .int .i64 (kd : Nat)
  r28 : w.ownsRow base 86 2 (L 28) sts.length (prs sts)
  re : w.ownsRow base 3 1 (L 29) (Im.el E).length (ints (Im.el E))
  l30 : L 30 = .int .i64 (k : Nat)
  l31 : L 31 = .int .i64 top
  l32 : L 32 = .bool true

theorem prs_get (l : List (Nat × Nat)) : ∀ j, j < l.length → (prs l)[j * 2]? = some (.int .i64 ((l[j]?.getD (0, 0)).1 : Nat)) ∧ (prs l)[j * 2 + 1]? = some (.int .i64 ((l[j]?.getD (0, 0)).2 : Nat)) := by
  induction l with
  | nil => intro j h; simp at h
  | cons p r ih =>
    intro j h
    cases j with
    | zero => simp [prs]
    | succ j =>
      have := ih j (by simpa using h)
      rw [show (j + 1) * 2 = j * 2 + 1 + 1 by omega]
      simpa [prs] using this
theorem drop_rev (l : List (Nat × Nat)) (j : Nat) (h : j < l.length) : (l.drop j).reverse = (l.drop (j + 1)).reverse ++ [l[j]?.getD (0, 0)] := by
  rw [List.drop_eq_getElem_cons h, List.reverse_cons, List.getElem?_eq_getElem h]; rfl

/-- how fault ends. -/
def FaultPost (bb base kd k : Nat) (m : Im.St) (w w' : World) (e : Ending) : Prop :=
  e = .returned (.tuple #[]) ∧ (∃ L', Dn bb base 1 kd m.fn m.at_ k (-1) m.cal.reverse m.edg L' w') ∧ Kx base bb w w'

/-- what holds at the head of each round of fault's loop. -/
structure Fl (bb base kd k j : Nat) (m : Im.St) (v23 : Value) (L : Nat → Value) (w : World) : Prop where
  bx : Bx bb 33 L w
  l23 : L 23 = v23
  rc : w.ownsRow base 86 2 v23 m.cal.length (prs m.cal)
  l24 : L 24 = .int .i64 1
  l25 : L 25 = .int .i64 (m.fn : Nat)
  l26 : L 26 = .int .i64 (m.at_ : Nat)
  l27 : L 27 = .int .i64 (kd : Nat)
  r28 : w.ownsRow base 86 2 (L 28) (m.cal.drop j).reverse.length (prs (m.cal.drop j).reverse)
  d28 : (L 28).ownBlock = none ∨ (L 28).ownBlock ≠ v23.ownBlock
  re : w.ownsRow base 3 1 (L 29) (Im.el m.edg).length (ints (Im.el m.edg))
  l30 : L 30 = .int .i64 (k : Nat)
  l31 : L 31 = .int .i64 (-1)
  l32 : L 32 = .bool true
  hbb : bb < base
  hba : base ≤ w.heap.size

theorem owns_setb {w : World} {base bb : Nat} {e : TypeId} {size : Nat} {x : Value} {q : Nat} {xs : List Value} {o : Nat} {v : Value} (h : w.ownsRow base e size x q xs) (hb : bb < base) : (w.setCell ⟨bb, o, none⟩ v).ownsRow base e size x q xs := ownsRow_setCell_below h (by exact hb) _
theorem owns_drewN {w : World} {base : Nat} {e : TypeId} {size : Nat} {x : Value} {q : Nat} {xs : List Value} {k : Nat} (h : w.ownsRow base e size x q xs) : (w.drewN k).ownsRow base e size x q xs := h
theorem size_setb (w : World) (bb o : Nat) (v : Value) : (w.setCell ⟨bb, o, none⟩ v).heap.size = w.heap.size := by simp
theorem Fl.start {s inp : ByteArray} {n bb bF cF base k kd : Nat} {m : Im.St} {L : Nat → Value} {w : World} (hM : Ms s inp n bb bF cF base m k L w) (q : Nat) :
    ∃ L', Fl bb base kd k m.cal.length m (L 23) L' ((((((w.setCell ⟨bb, 32, none⟩ (.bool true)).setCell ⟨bb, 24, none⟩ (.int .i64 1)).setCell ⟨bb, 27, none⟩ (.int .i64 kd)).setCell ⟨bb, 25, none⟩ (.int .i64 (m.fn : Nat))).setCell ⟨bb, 26, none⟩ (.int .i64 (m.at_ : Nat))).drewN q) ∧
      Kx base bb w ((((((w.setCell ⟨bb, 32, none⟩ (.bool true)).setCell ⟨bb, 24, none⟩ (.int .i64 1)).setCell ⟨bb, 27, none⟩ (.int .i64 kd)).setCell ⟨bb, 25, none⟩ (.int .i64 (m.fn : Nat))).setCell ⟨bb, 26, none⟩ (.int .i64 (m.at_ : Nat))).drewN q) := by
  refine ⟨updV (updV (updV (updV (updV L 32 (.bool true)) 24 (.int .i64 1)) 27 (.int .i64 kd)) 25 (.int .i64 (m.fn : Nat))) 26 (.int .i64 (m.at_ : Nat)), ?_, ((((((Kx.refl base bb w).set _ _).set _ _).set _ _).set _ _).set _ _).drewN q⟩
  constructor
  case bx => exact (((((hM.bx.set 32 _ (by omega)).set 24 _ (by omega)).set 27 _ (by omega)).set 25 _ (by omega)).set 26 _ (by omega)).drewN q
  case rc => refine owns_drewN (owns_setb (owns_setb (owns_setb (owns_setb (owns_setb ?_ hM.hbb) hM.hbb) hM.hbb) hM.hbb) hM.hbb); exact hM.rc
  case r28 =>
    have h : updV (updV (updV (updV (updV L 32 (.bool true)) 24 (.int .i64 1)) 27 (.int .i64 kd)) 25 (.int .i64 (m.fn : Nat))) 26 (.int .i64 (m.at_ : Nat)) 28 = .slice none 0 0 := by simpa [updV] using hM.l28
    rw [h, List.drop_length]
    exact World.ownsRow_nil _ _ _ _
  case d28 =>
    have h : updV (updV (updV (updV (updV L 32 (.bool true)) 24 (.int .i64 1)) 27 (.int .i64 kd)) 25 (.int .i64 (m.fn : Nat))) 26 (.int .i64 (m.at_ : Nat)) 28 = .slice none 0 0 := by simpa [updV] using hM.l28
    rw [h]; left; rfl
  case re =>
    have h : updV (updV (updV (updV (updV L 32 (.bool true)) 24 (.int .i64 1)) 27 (.int .i64 kd)) 25 (.int .i64 (m.fn : Nat))) 26 (.int .i64 (m.at_ : Nat)) 29 = L 29 := by simp [updV]
    rw [h]; refine owns_drewN (owns_setb (owns_setb (owns_setb (owns_setb (owns_setb ?_ hM.hbb) hM.hbb) hM.hbb) hM.hbb) hM.hbb); exact hM.re
  case l23 => simp [updV]
  case l24 => simp [updV]
  case l25 => simp [updV]
  case l26 => simp [updV]
  case l27 => simp [updV]
  case l30 => simpa [updV] using hM.l30
  case l31 => simpa [updV] using hM.l31
  case l32 => simp [updV]
  case hbb => exact hM.hbb
  case hba =>
    have h : ∀ (w : World), (w.drewN q).heap.size = w.heap.size := fun _ => rfl
    rw [h, size_setb, size_setb, size_setb, size_setb, size_setb]; exact hM.hba
theorem Fl.next {bb base kd k j : Nat} {m : Im.St} {v23 v : Value} {L : Nat → Value} {w w1 : World} (hF : Fl bb base kd k (j + 1) m v23 L w) (hg : w.grownBy w1 (L 28).ownBlock) (hf : Fresh w (L 28) v)
    (ho : w1.ownsRow base 86 2 v (m.cal.drop j).reverse.length (prs (m.cal.drop j).reverse)) : Fl bb base kd k j m v23 (updV L 28 v) (w1.setCell ⟨bb, 28, none⟩ v) ∧ Kx base bb w (w1.setCell ⟨bb, 28, none⟩ v) := by
  have hrow : ∀ j, (L 28).ownBlock = some j → base ≤ j ∧ j < w.heap.size := hF.r28.lt
  have hbb : some bb ≠ (L 28).ownBlock := fun e => by have := (hrow bb e.symm).1; have := hF.hbb; omega
  have low : ∀ {e : TypeId} {size : Nat} {x : Value} {q : Nat} {xs : List Value}, w1.ownsRow base e size x q xs → (w1.setCell ⟨bb, 28, none⟩ v).ownsRow base e size x q xs := fun h => ownsRow_setCell_below h (by exact hF.hbb) _
  have hrc : v23.ownBlock = none ∨ v23.ownBlock ≠ (L 28).ownBlock := by
    rcases hF.d28 with h | h
    · rcases hx : v23.ownBlock with _ | x
      · left; rfl
      · right; rw [h]; simp
    · right; exact fun e => h e.symm
  have hre : (L 29).ownBlock = none ∨ (L 29).ownBlock ≠ (L 28).ownBlock := owns_kind hF.re hF.r28 (by decide)
  refine ⟨?_, ((Kx.refl base bb w).grown hg hF.hba (fun j hj => (hrow j hj).1)).set _ _⟩
  constructor
  case bx => exact (hF.bx.grown hg hbb).set _ _ (by omega)
  case rc => exact low (hF.rc.kept hg hrc)
  case r28 => rw [updV_at]; exact low ho
  case d28 =>
    rw [updV_at]
    rcases hv : v.ownBlock with _ | x
    · left; rfl
    · right
      intro e
      rcases hf x hv with h | h
      · rcases hF.d28 with h' | h'
        · rw [h'] at h; simp at h
        · exact h' (h.trans e)
      · have := (hF.rc.lt x e.symm).2; omega
  case re => rw [updV_ne _ _ _ _ (by omega)]; exact low (hF.re.kept hg hre)
  case hbb => exact hF.hbb
  case hba => have := hF.hba; have := hg.size; simp; omega
  case l23 => rw [updV_ne _ _ _ _ (by omega)]; exact hF.l23
  case l24 => rw [updV_ne _ _ _ _ (by omega)]; exact hF.l24
  case l25 => rw [updV_ne _ _ _ _ (by omega)]; exact hF.l25
  case l26 => rw [updV_ne _ _ _ _ (by omega)]; exact hF.l26
  case l27 => rw [updV_ne _ _ _ _ (by omega)]; exact hF.l27
  case l30 => rw [updV_ne _ _ _ _ (by omega)]; exact hF.l30
  case l31 => rw [updV_ne _ _ _ _ (by omega)]; exact hF.l31
  case l32 => rw [updV_ne _ _ _ _ (by omega)]; exact hF.l32
theorem Fl.alloc {bb base kd k j : Nat} {m : Im.St} {v23 : Value} {L : Nat → Value} {w : World} (hF : Fl bb base kd k j m v23 L w) (o : Obj) : Fl bb base kd k j m v23 L (w.alloc o) :=
  { hF with bx := hF.bx.alloc o, rc := hF.rc.alloc o, r28 := hF.r28.alloc o, re := hF.re.alloc o, hba := by have := hF.hba; simp; omega }
theorem Fl.drewN {bb base kd k j : Nat} {m : Im.St} {v23 : Value} {L : Nat → Value} {w : World} (hF : Fl bb base kd k j m v23 L w) (q : Nat) : Fl bb base kd k j m v23 L (w.drewN q) :=
  { hF with bx := hF.bx.drewN q, rc := hF.rc, r28 := hF.r28, re := hF.re, hba := hF.hba }
theorem Fl.done {bb base kd k : Nat} {m : Im.St} {v23 : Value} {L : Nat → Value} {w : World} (hF : Fl bb base kd k 0 m v23 L w) : Dn bb base 1 kd m.fn m.at_ k (-1) m.cal.reverse m.edg L w :=
  ⟨hF.bx, hF.l24, hF.l25, hF.l26, hF.l27, hF.r28, hF.re, hF.l30, hF.l31, hF.l32⟩

theorem news2 (w : World) (t : TypeId) (x0 x1 : Value) : ∀ j u, [x0, x1][j]? = some u → (w.alloc (.cells #[x0, x1] t)).cell? ((⟨w.heap.size, 0, none⟩ : Addr).add j) = some u := by
  intro j u hj
  match j, hj with
  | 0, hj => simp at hj; subst hj; simp [Addr.add]
  | 1, hj => simp at hj; subst hj; simp [Addr.add]
theorem ones2 (k : IntKind) (a b : Int) : ∀ u ∈ [Value.int k a, Value.int k b], u.oneCell' = true := by
  intro u hu; simp at hu; rcases hu with rfl | rfl <;> rfl

set_option maxHeartbeats 6400000 in
set_option maxRecDepth 100000 in
theorem fault_any (s inp : ByteArray) (n bb bF cF base k kd : Nat) (m : Im.St) (L : Nat → Value) (w : World) (hM : Ms s inp n bb bF cF base m k L w) (hcal : m.cal.length ≤ 100) :
    Calls Tryz.prog 88 #[.pointer (some ⟨bb, 0, none⟩), .int .i64 kd] w fun e w' => FaultPost bb base kd k m w w' e := by
  obtain ⟨i0, hi, hz0, hz1, hz2⟩ := info_parts Tryz.infoSite
  have c32 := hM.bx.cell 32 (by omega)
  have c24 := hM.bx.cell 24 (by omega)
  have c27 := hM.bx.cell 27 (by omega)
  have c25 := hM.bx.cell 25 (by omega)
  have c26 := hM.bx.cell 26 (by omega)
  have c4 := hM.bx.cell 4 (by omega)
  have c5 := hM.bx.cell 5 (by omega)
  have c23 := hM.bx.cell 23 (by omega)
  rw [hM.l32] at c32
  rw [hM.l24] at c24
  rw [hM.l27] at c27
  rw [hM.l25] at c25
  rw [hM.l26] at c26
  rw [hM.l4] at c4
  rw [hM.l5] at c5
  have z32 := hM.bx.frz 32
  have z24 := hM.bx.frz 24
  have z27 := hM.bx.frz 27
  have z25 := hM.bx.frz 25
  have z26 := hM.bx.frz 26
  obtain ⟨ao, cap, hv, hnc, hcm, hcl⟩ := owns_shape hM.rc
  have HFS := fun q => Fl.start (kd := kd) hM q
  have HV : Hid (L 23 = .slice ao m.cal.length cap) := hv
  rw [hv] at c23
  unfold maxLen at hcm
  clear hv
  go_enter Tryz.func88, Tryz.ntmps88
  go_wp2
  go_region
  go_wp2
  obtain ⟨L1, hF1, hK1⟩ := HFS 1
  clear HFS c32 c24 c27 c25 c26 c4 c5 c23 z32 z24 z27 z25 z26 hM hcl
  go_loopw [4] (fun i wr => ∃ (j : Nat) (L' : Nat → Value), i = .int .i64 ((j : Int) - 1) ∧ j ≤ m.cal.length ∧ Fl bb base kd k j m (L 23) L' wr ∧ Kx base bb w wr) (fun i _ => ((intOf i) + 1).toNat)
  case atStart => exact ⟨m.cal.length, L1, rfl, Nat.le_refl _, hF1, hK1⟩
  case round =>
    clear hF1 hK1
    obtain ⟨j, L', rfl, hj, hF, hK⟩ := hrel
    by_cases hj0 : j = 0
    · subst hj0
      have HD := hF.done
      have HP : Hid (FaultPost bb base kd k m w wr (.returned (.tuple #[]))) := ⟨rfl, ⟨L', HD⟩, hK⟩
      clear HD hF hK
      go_wp2
      go_end0
      exact HP.out
    · obtain ⟨j, rfl⟩ : ∃ i, j = i + 1 := ⟨j - 1, by omega⟩
      have e1 : ((j + 1 : Nat) : Int) - 1 = (j : Int) := by omega
      rw [e1]
      obtain ⟨ao2, cap2, hv2, hnc2, hcm2, -⟩ := owns_shape hF.r28
      obtain ⟨g, cap3, hv3, hgb, hnc3, hcm3, hgl, hcells⟩ := owns_some hF.rc (by omega)
      have c23 := hF.bx.cell 23 (by omega)
      rw [hF.l23, hv3] at c23
      have c28 := hF.bx.cell 28 (by omega)
      have z28 := hF.bx.frz 28
      have hbl := hF.bx.lt
      have hbb := hF.hbb
      have hba := hF.hba
      obtain ⟨g0, g1⟩ := prs_get m.cal j (by omega)
      have x0 := hcells _ _ g0
      have x1 := hcells _ _ g1
      have HDR : Hid ((m.cal.drop j).reverse = (m.cal.drop (j + 1)).reverse ++ [m.cal[j]?.getD (0, 0)]) := drop_rev m.cal j (by omega)
      have hr28 := hF.r28
      have hlen28 : (m.cal.drop (j + 1)).reverse.length ≤ 100 := by simp; omega
      have hrow : some bb ≠ (L' 28).ownBlock := fun e => by have := (hF.r28.lt bb e.symm).1; omega
      have HF : Hid (Fl bb base kd k (j + 1) m (L 23) L' wr) := hF
      have HV2 : Hid (L' 28 = .slice ao2 (m.cal.drop (j + 1)).reverse.length cap2) := hv2
      rw [hv2] at c28 hr28 hrow
      have HK : Hid (Kx base bb w wr) := hK
      clear hF hK hcells g0 g1 hv2 hv3
      obtain ⟨pr, HPR⟩ : ∃ pr, Hid (m.cal[j]?.getD (0, 0) = pr) := ⟨_, rfl⟩
      rw [HPR.out] at x0 x1 HDR
      have hgb2 : g ≠ bb := by omega
      generalize (m.cal.drop (j + 1)).reverse = R at *
      unfold maxLen at hcm2 hcm3
      have hjl : j < m.cal.length := by omega
      go_wp2
      go_region_law (refine step_append_fresh rfl (.tmp 45) (.tmp 53) 49 rfl base 86 i0 (.agg #[.int .i64 0, .int .i64 0]) 2 16 Tryz.undSites hi hz0 hz1 hz2 rfl (by decide) (.slice ao2 R.length cap2) R.length (prs R) rfl (by exact hr28.alloc _) ⟨wr.heap.size, 0, none⟩ 1 1 [.int .i64 (pr.1 : Nat), .int .i64 (pr.2 : Nat)] rfl rfl (by exact news2 _ _ _ _) (by exact ones2 _ _ _) (by unfold maxLen; omega) (by omega) (by exact Nat.le_trans hba (by simp)) ?_; intro v' w1 hown' hgrow hfr; have c28' : w1.cell? ⟨bb, 28, none⟩ = some (.slice ao2 R.length cap2) := (hgrow.cell ((World.cell?_alloc_lt _ _ ⟨bb, 28, none⟩ hbl).trans c28) hrow); have z28' : w1.frozen? ⟨bb, 28, none⟩ = false := (World.frozen?_of_block (a := ⟨bb, 28, none⟩) (hgrow.block bb (Nat.lt_of_lt_of_le hbl (by simp)) hrow)).trans ((World.frozen?_alloc_old _ _ ⟨bb, 28, none⟩ (Nat.ne_of_lt hbl)).trans z28); obtain ⟨g', cap', hv', -⟩ := owns_some hown' (by omega); subst hv')
      all_goals
        have hN : Fl bb base kd k j m (L 23) (updV L' 28 (.slice (some ⟨g', 0, none⟩) (R.length + 1) cap')) (w1.setCell ⟨bb, 28, none⟩ (.slice (some ⟨g', 0, none⟩) (R.length + 1) cap')) ∧ Kx base bb wr (w1.setCell ⟨bb, 28, none⟩ (.slice (some ⟨g', 0, none⟩) (R.length + 1) cap')) := by
          have hA : Fl bb base kd k (j + 1) m (L 23) L' ((wr.alloc (.cells #[.int .i64 (pr.1 : Nat), .int .i64 (pr.2 : Nat)] 86)).drewN 1) := (HF.out.alloc _).drewN 1
          have h := hA.next (w1 := w1) (v := .slice (some ⟨g', 0, none⟩) (R.length + 1) cap') (by rw [HV2.out]; exact hgrow) (by rw [HV2.out]; exact hfr) (by rw [HDR.out, prs_append]; simpa [prs] using hown')
          exact ⟨h.1, (((Kx.refl base bb wr).alloc hba _).drewN 1).trans h.2⟩
        have hN1 := hN.1
        have hN2 := HK.out.trans hN.2
        clear hN hown' hgrow hfr c28' z28' c28 z28 hr28 x0 x1 c23
        go_wp2
        go_roundw
        case rel => exact ⟨j, _, by go_num, by omega, hN1, hN2⟩
        case measure => simp [intOf]
end Go.Proofs.YtjhjkdcophcgaaaGreatDoor

/-
  THE DOCUMENT's SIDE (package triageref): sum, back, goes. By the verifier of the loop 'triage'.
-/
namespace Go.Proofs.YtjhjkdcophcgaaaGreatDoor
open Go.RowKit

theorem Ms.k0 {s inp : ByteArray} {n bb bF cF base k : Nat} {m : Im.St} {L : Nat → Value} {w : World} (h : Ms s inp n bb bF cF base m k L w) : w.cell? ⟨bb, 0, none⟩ = some (.string s) := (h.bx.cell 0 (by omega)).trans (by rw [h.l0])
theorem Ms.k1 {s inp : ByteArray} {n bb bF cF base k : Nat} {m : Im.St} {L : Nat → Value} {w : World} (h : Ms s inp n bb bF cF base m k L w) : w.cell? ⟨bb, 1, none⟩ = some (.slice (some ⟨bF, 0, none⟩) n cF) := (h.bx.cell 1 (by omega)).trans (by rw [h.l1])
theorem Ms.k2 {s inp : ByteArray} {n bb bF cF base k : Nat} {m : Im.St} {L : Nat → Value} {w : World} (h : Ms s inp n bb bF cF base m k L w) : w.cell? ⟨bb, 2, none⟩ = some (.string inp) := (h.bx.cell 2 (by omega)).trans (by rw [h.l2])
theorem Ms.k3 {s inp : ByteArray} {n bb bF cF base k : Nat} {m : Im.St} {L : Nat → Value} {w : World} (h : Ms s inp n bb bF cF base m k L w) : w.cell? ⟨bb, 3, none⟩ = some (.int .i64 (m.pos : Nat)) := (h.bx.cell 3 (by omega)).trans (by rw [h.l3])
theorem Ms.k4 {s inp : ByteArray} {n bb bF cF base k : Nat} {m : Im.St} {L : Nat → Value} {w : World} (h : Ms s inp n bb bF cF base m k L w) : w.cell? ⟨bb, 4, none⟩ = some (.int .i64 (m.fn : Nat)) := (h.bx.cell 4 (by omega)).trans (by rw [h.l4])
theorem Ms.k5 {s inp : ByteArray} {n bb bF cF base k : Nat} {m : Im.St} {L : Nat → Value} {w : World} (h : Ms s inp n bb bF cF base m k L w) : w.cell? ⟨bb, 5, none⟩ = some (.int .i64 (m.at_ : Nat)) := (h.bx.cell 5 (by omega)).trans (by rw [h.l5])
theorem Ms.k30 {s inp : ByteArray} {n bb bF cF base k : Nat} {m : Im.St} {L : Nat → Value} {w : World} (h : Ms s inp n bb bF cF base m k L w) : w.cell? ⟨bb, 30, none⟩ = some (.int .i64 (k : Nat)) := (h.bx.cell 30 (by omega)).trans (by rw [h.l30])
theorem Ms.k31 {s inp : ByteArray} {n bb bF cF base k : Nat} {m : Im.St} {L : Nat → Value} {w : World} (h : Ms s inp n bb bF cF base m k L w) : w.cell? ⟨bb, 31, none⟩ = some (.int .i64 (-1)) := (h.bx.cell 31 (by omega)).trans (by rw [h.l31])
theorem Ms.k32 {s inp : ByteArray} {n bb bF cF base k : Nat} {m : Im.St} {L : Nat → Value} {w : World} (h : Ms s inp n bb bF cF base m k L w) : w.cell? ⟨bb, 32, none⟩ = some (.bool false) := (h.bx.cell 32 (by omega)).trans (by rw [h.l32])
theorem Ms.kc {s inp : ByteArray} {n bb bF cF base k : Nat} {m : Im.St} {L : Nat → Value} {w : World} (h : Ms s inp n bb bF cF base m k L w) (i : Nat) (hi : i < 16) : w.cell? ⟨bb, 7 + i, none⟩ = some (.int .i64 (m.cel i : Nat)) := (h.bx.cell (7 + i) (by omega)).trans (by rw [h.lc i hi])

theorem ari4 (x y : Nat) : Im.ari 4 x y = (x + y) % 256 := by unfold Im.ari; rw [if_pos rfl]
theorem ari5 (x y : Nat) : Im.ari 5 x y = (x + 256 - y) % 256 := by unfold Im.ari; rw [if_neg (by decide), if_pos rfl]
theorem ari6 (x y : Nat) : Im.ari 6 x y = x * y % 256 := by unfold Im.ari; rw [if_neg (by decide), if_neg (by decide), if_pos rfl]
theorem ari8 (x y : Nat) : Im.ari 8 x y = if x = y then 1 else 0 := by unfold Im.ari; rw [if_neg (by decide), if_neg (by decide), if_neg (by decide), if_pos rfl]
theorem ari9 (x y : Nat) : Im.ari 9 x y = if x < y then 1 else 0 := by unfold Im.ari; rw [if_neg (by decide), if_neg (by decide), if_neg (by decide), if_neg (by decide), if_pos rfl]
theorem ari7 (x y : Nat) : Im.ari 7 x y = x / y := by unfold Im.ari; rw [if_neg (by decide), if_neg (by decide), if_neg (by decide), if_neg (by decide), if_neg (by decide)]

/-- how 'sum' ends where there is an answer. -/
def SumPost (op x y : Nat) (w w' : World) (e : Ending) : Prop := (∃ z : Int, e = .returned (.tuple #[.int .i64 z, .bool true]) ∧ z % 256 = (Im.ari op x y : Nat)) ∧ w = w'

set_option maxHeartbeats 800000 in
/-- 'sum' of two bytes: what is pushed. -/
theorem sum_any (op x y : Nat) (w : World) (hx : x < 256) (hy : y < 256) (hop : op = 4 ∨ op = 5 ∨ op = 6 ∨ op = 8 ∨ op = 9 ∨ (op = 7 ∧ y ≠ 0)) :
    Calls Tryz.prog 97 #[.int .u8 op, .int .i64 x, .int .i64 y] w fun e w' => SumPost op x y w w' e := by
  rcases hop with rfl | rfl | rfl | rfl | rfl | ⟨rfl, hy0⟩
  · have HP : Hid (SumPost 4 x y w w (.returned (.tuple #[.int .i64 ((x : Int) + y), .bool true]))) := ⟨⟨_, rfl, by rw [ari4]; omega⟩, rfl⟩
    go_enter Tryz.func97, Tryz.ntmps97
    go_wp2
    go_ret2
    exact HP.out
  · have HP : Hid (SumPost 5 x y w w (.returned (.tuple #[.int .i64 ((x : Int) - y), .bool true]))) := ⟨⟨_, rfl, by rw [ari5]; omega⟩, rfl⟩
    go_enter Tryz.func97, Tryz.ntmps97
    go_wp2
    go_ret2
    exact HP.out
  · have hm : x * y ≤ 255 * 255 := Nat.mul_le_mul (by omega) (by omega)
    have HP : Hid (SumPost 6 x y w w (.returned (.tuple #[.int .i64 ((x : Int) * y), .bool true]))) := ⟨⟨_, rfl, by rw [ari6]; simp⟩, rfl⟩
    have hm2 : (x : Int) * (y : Int) ≤ 65025 := by
      have : ((x * y : Nat) : Int) ≤ 65025 := by omega
      simpa using this
    have hm3 : 0 ≤ (x : Int) * (y : Int) := Int.mul_nonneg (by omega) (by omega)
    go_enter Tryz.func97, Tryz.ntmps97
    go_wp2
    go_ret2
    exact HP.out
  · by_cases h : x = y
    · have hb : ((x : Int) == (y : Int)) = true := by simp [h]
      have HP : Hid (SumPost 8 x y w w (.returned (.tuple #[.int .i64 1, .bool true]))) := ⟨⟨_, rfl, by rw [ari8, if_pos h]; rfl⟩, rfl⟩
      clear h
      go_enter Tryz.func97, Tryz.ntmps97
      go_wp2_with (go_at_call 106; refine (truth_any _ _).mono ?_; rintro e w' ⟨rfl, rfl⟩)
      go_ret2
      exact HP.out
    · have hb : ((x : Int) == (y : Int)) = false := by rw [beq_eq_false_iff_ne]; omega
      have HP : Hid (SumPost 8 x y w w (.returned (.tuple #[.int .i64 0, .bool true]))) := ⟨⟨_, rfl, by rw [ari8, if_neg h]; rfl⟩, rfl⟩
      clear h
      go_enter Tryz.func97, Tryz.ntmps97
      go_wp2_with (go_at_call 106; refine (truth_any _ _).mono ?_; rintro e w' ⟨rfl, rfl⟩)
      go_ret2
      exact HP.out
  · by_cases h : x < y
    · have HP : Hid (SumPost 9 x y w w (.returned (.tuple #[.int .i64 1, .bool true]))) := ⟨⟨_, rfl, by rw [ari9, if_pos h]; rfl⟩, rfl⟩
      have hb : decide ((x : Int) < (y : Int)) = true := by simp; omega
      go_enter Tryz.func97, Tryz.ntmps97
      go_wp2_with (go_at_call 106; refine (truth_any _ _).mono ?_; rintro e w' ⟨rfl, rfl⟩)
      go_ret2
      exact HP.out
    · have HP : Hid (SumPost 9 x y w w (.returned (.tuple #[.int .i64 0, .bool true]))) := ⟨⟨_, rfl, by rw [ari9, if_neg h]; rfl⟩, rfl⟩
      have hb : decide ((x : Int) < (y : Int)) = false := by simp; omega
      go_enter Tryz.func97, Tryz.ntmps97
      go_wp2_with (go_at_call 106; refine (truth_any _ _).mono ?_; rintro e w' ⟨rfl, rfl⟩)
      go_ret2
      exact HP.out
  · have hb : ((y : Int) == 0) = false := by rw [beq_eq_false_iff_ne]; omega
    have hd : x / y ≤ x := Nat.div_le_self x y
    have hq : 0 ≤ (x : Int) / (y : Int) := Int.ediv_nonneg (by omega) (by omega)
    have hq2 : (x : Int) / (y : Int) ≤ 255 := by
      have : ((x / y : Nat) : Int) = (x : Int) / y := by simp
      omega
    have HP : Hid (∀ z : Int, z = (x : Int) / (y : Int) → SumPost 7 x y w w (.returned (.tuple #[.int .i64 z, .bool true]))) := by
      intro z hz
      refine ⟨⟨z, rfl, ?_⟩, rfl⟩
      rw [ari7]
      have : ((x / y : Nat) : Int) = (x : Int) / y := by simp
      omega
    go_enter Tryz.func97, Tryz.ntmps97
    go_wp2
    go_ret2
    exact HP.out _ rfl
theorem sum_zero (x : Nat) (w : World) : Calls Tryz.prog 97 #[.int .u8 7, .int .i64 x, .int .i64 0] w fun e w' => e = .returned (.tuple #[.int .i64 0, .bool false]) ∧ w = w' := by
  go_enter Tryz.func97, Tryz.ntmps97
  go_wp2
  go_ret2
  exact ⟨rfl, rfl⟩
end Go.Proofs.YtjhjkdcophcgaaaGreatDoor
