/-
  MacA, MacB, MacC: THESE TEXTS, JOINED. By the verifier of the loop 'triage'.
-/
import Derived.Test.YtbmaiioecnmopaaGreatDoorJ07
import Derived.Test.YtbmaiioecnmopaaGreatDoorJ03
/-
  THE PROGRAM's SIDE (package triage): the machine's memory. By the verifier of the loop 'triage'.
-/
namespace Go.Proofs.YtbmaiioecnmopaaGreatDoor
open Go.RowKit

theorem Tryz.infoByte : (Tryz.prog.info? 5).map (fun i => (i.zero, i.size, i.bytes)) = some (some (.int .u8 0), 1, 1) := by kernel_rfl
theorem Tryz.undBytes : Tryz.prog.underlying 120 = some (.slice 5) := by kernel_rfl
theorem Tryz.infoPSite : (Tryz.prog.info? 34).map (fun i => (i.zero, i.size, i.bytes)) = some (some (.agg #[.int .i64 0, .int .i64 0]), 2, 16) := by kernel_rfl
theorem Tryz.undPSites : Tryz.prog.underlying 37 = some (.slice 34) := by kernel_rfl

/-- bytes in memory. -/
def byts (l : List Nat) : List Value := l.map fun x => .int .u8 (x : Nat)
theorem byts_take (l : List Nat) (k : Nat) : byts (l.take k) = (byts l).take (k * 1) := by simp [byts, List.map_take]
theorem byts_get (l : List Nat) (j : Nat) (h : j < l.length) : (byts l)[j]? = some (.int .u8 (l[j]?.getD 0 : Nat)) := by simp [byts, List.getElem?_eq_getElem h]

/-- what is left of the input. -/
structure Suf (inp : ByteArray) (p : Nat) (t : ByteArray) : Prop where
  sz : t.size = inp.size - p
  at_ : ∀ i, p + i < inp.size → Im.bt t i = Im.bt inp (p + i)

/-- the machine's struct, but for what it owns. -/
structure Lm (s inp : ByteArray) (n bs bc cs : Nat) (m : Im.St) (en : Bool) (L : Nat → Value) : Prop where
  l0 : L 0 = .int .i64 (m.fn : Nat)
  l1 : L 1 = .int .i64 (m.at_ : Nat)
  l2 : L 2 = .slice (some ⟨bs, 0, none⟩) (n + 1) cs
  l3 : L 3 = .slice (some ⟨bc, 0, none⟩) s.size s.size
  l4 : ∃ t, L 4 = .string t ∧ Suf inp m.pos t
  lc : ∀ i, i < 16 → L (7 + i) = .int .u8 (m.cel i : Nat)
  le : ∀ i, i < 400 → L (23 + i) = .bool (m.edg i)
  l423 : L 423 = .bool en

/-- the program that is read, beneath it. -/
structure Mf (s : ByteArray) (n mb bs bc cs base : Nat) (w : World) : Prop where
  st : ∀ j, j ≤ n → w.cell? ⟨bs, j, none⟩ = some (.int .i64 (Im.st s j : Nat))
  c0 : ∀ i, i ∈ allD s n → w.cell? ⟨bc, i * 4, none⟩ = some (.int .i64 (Im.tk (Im.bt s i) : Nat))
  c1 : ∀ i, i ∈ allD s n → w.cell? ⟨bc, i * 4 + 1, none⟩ = some (.int .i64 (Im.sz (Im.bt s i) : Nat))
  c2 : ∀ i, i ∈ allD s n → w.cell? ⟨bc, i * 4 + 2, none⟩ = some (.int .u8 (Im.bt s i : Nat))
  c3 : ∀ i, i ∈ allD s n → w.cell? ⟨bc, i * 4 + 3, none⟩ = some (.int .u8 (ar s i : Nat))
  hcs : n + 1 ≤ cs
  hcm : cs ≤ maxLen
  hbb : mb < base
  hbs : bs < base
  hbc : bc < base
  nes : bs ≠ mb
  nec : bc ≠ mb
  hba : base ≤ w.heap.size
theorem Mf.kx {s : ByteArray} {n mb bs bc cs base : Nat} {w w' : World} (h : Mf s n mb bs bc cs base w) (k : Kx base mb w w') : Mf s n mb bs bc cs base w' := by
  have hs := k.block bs h.hbs h.nes
  have hc := k.block bc h.hbc h.nec
  exact { h with st := fun j hj => (World.cell?_of_block (a := ⟨bs, _, none⟩) hs).trans (h.st j hj), c0 := fun i hi => (World.cell?_of_block (a := ⟨bc, _, none⟩) hc).trans (h.c0 i hi), c1 := fun i hi => (World.cell?_of_block (a := ⟨bc, _, none⟩) hc).trans (h.c1 i hi), c2 := fun i hi => (World.cell?_of_block (a := ⟨bc, _, none⟩) hc).trans (h.c2 i hi), c3 := fun i hi => (World.cell?_of_block (a := ⟨bc, _, none⟩) hc).trans (h.c3 i hi), hba := Nat.le_trans h.hba k.size }

/-- THE MEMORY of the program's machine. -/
structure Mc (s inp : ByteArray) (n mb bs bc cs base : Nat) (m : Im.St) (en : Bool) (L : Nat → Value) (w : World) : Prop where
  bx : Bx mb 424 L w
  lm : Lm s inp n bs bc cs m en L
  rs : w.ownsRow base 5 1 (L 5) m.stk.length (byts m.stk)
  rc : w.ownsRow base 34 2 (L 6) m.cal.length (prs m.cal)
  mf : Mf s n mb bs bc cs base w
theorem Mc.drewN {s inp : ByteArray} {n mb bs bc cs base : Nat} {m : Im.St} {en : Bool} {L : Nat → Value} {w : World} (h : Mc s inp n mb bs bc cs base m en L w) (q : Nat) : Mc s inp n mb bs bc cs base m en L (w.drewN q) :=
  ⟨h.bx.drewN q, h.lm, h.rs, h.rc, h.mf.kx ((Kx.refl base mb w).drewN q)⟩
theorem Mc.alloc {s inp : ByteArray} {n mb bs bc cs base : Nat} {m : Im.St} {en : Bool} {L : Nat → Value} {w : World} (h : Mc s inp n mb bs bc cs base m en L w) (o : Obj) : Mc s inp n mb bs bc cs base m en L (w.alloc o) :=
  ⟨h.bx.alloc o, h.lm, h.rs.alloc o, h.rc.alloc o, h.mf.kx ((Kx.refl base mb w).alloc h.mf.hba o)⟩
theorem Mc.set {s inp : ByteArray} {n mb bs bc cs base : Nat} {m m' : Im.St} {en en' : Bool} {L : Nat → Value} {w : World} (h : Mc s inp n mb bs bc cs base m en L w) (o : Nat) (v : Value) (ho : o < 424) (h5 : o ≠ 5) (h6 : o ≠ 6) (hl : Lm s inp n bs bc cs m' en' (updV L o v)) (hs : m'.stk = m.stk) (hc : m'.cal = m.cal) :
    Mc s inp n mb bs bc cs base m' en' (updV L o v) (w.setCell ⟨mb, o, none⟩ v) :=
  ⟨h.bx.set o v ho, hl, by rw [updV_ne _ _ _ _ (by omega), hs]; exact ownsRow_setCell_below h.rs (by exact h.mf.hbb) _, by rw [updV_ne _ _ _ _ (by omega), hc]; exact ownsRow_setCell_below h.rc (by exact h.mf.hbb) _, h.mf.kx ((Kx.refl base mb w).set o v)⟩
theorem Lm.own {s inp : ByteArray} {n bs bc cs : Nat} {m : Im.St} {en : Bool} {L : Nat → Value} (h : Lm s inp n bs bc cs m en L) (o : Nat) (v : Value) (ho : o = 5 ∨ o = 6) (l : List Nat) (c : List (Nat × Nat)) : Lm s inp n bs bc cs { m with stk := l, cal := c } en (updV L o v) where
  l0 := (updV_ne _ _ _ _ (by omega)).trans h.l0
  l1 := (updV_ne _ _ _ _ (by omega)).trans h.l1
  l2 := (updV_ne _ _ _ _ (by omega)).trans h.l2
  l3 := (updV_ne _ _ _ _ (by omega)).trans h.l3
  l4 := by rw [updV_ne _ _ _ _ (by omega)]; exact h.l4
  lc i hi := (updV_ne _ _ _ _ (by omega)).trans (h.lc i hi)
  le i hi := (updV_ne _ _ _ _ (by omega)).trans (h.le i hi)
  l423 := (updV_ne _ _ _ _ (by omega)).trans h.l423
theorem Mc.setS {s inp : ByteArray} {n mb bs bc cs base : Nat} {m : Im.St} {en : Bool} {L : Nat → Value} {w : World} (h : Mc s inp n mb bs bc cs base m en L w) (l : List Nat) (v : Value) (ho : w.ownsRow base 5 1 v l.length (byts l)) : Mc s inp n mb bs bc cs base { m with stk := l } en (updV L 5 v) (w.setCell ⟨mb, 5, none⟩ v) :=
  ⟨h.bx.set 5 v (by omega), h.lm.own 5 v (by omega) l m.cal, by rw [updV_at]; exact ownsRow_setCell_below ho (by exact h.mf.hbb) _, by rw [updV_ne _ _ _ _ (by omega)]; exact ownsRow_setCell_below h.rc (by exact h.mf.hbb) _, h.mf.kx ((Kx.refl base mb w).set 5 v)⟩
theorem Mc.setC {s inp : ByteArray} {n mb bs bc cs base : Nat} {m : Im.St} {en : Bool} {L : Nat → Value} {w : World} (h : Mc s inp n mb bs bc cs base m en L w) (l : List (Nat × Nat)) (v : Value) (ho : w.ownsRow base 34 2 v l.length (prs l)) : Mc s inp n mb bs bc cs base { m with cal := l } en (updV L 6 v) (w.setCell ⟨mb, 6, none⟩ v) :=
  ⟨h.bx.set 6 v (by omega), h.lm.own 6 v (by omega) m.stk l, by rw [updV_ne _ _ _ _ (by omega)]; exact ownsRow_setCell_below h.rs (by exact h.mf.hbb) _, by rw [updV_at]; exact ownsRow_setCell_below ho (by exact h.mf.hbb) _, h.mf.kx ((Kx.refl base mb w).set 6 v)⟩
/-- the stack behind an append. -/
theorem Mc.grownS {s inp : ByteArray} {n mb bs bc cs base : Nat} {m : Im.St} {en : Bool} {L : Nat → Value} {w w1 : World} (h : Mc s inp n mb bs bc cs base m en L w) (hg : w.grownBy w1 (L 5).ownBlock) (l : List Nat) (v : Value) (ho : w1.ownsRow base 5 1 v l.length (byts l)) :
    Mc s inp n mb bs bc cs base { m with stk := l } en (updV L 5 v) (w1.setCell ⟨mb, 5, none⟩ v) ∧ Kx base mb w (w1.setCell ⟨mb, 5, none⟩ v) := by
  have hrow : ∀ j, (L 5).ownBlock = some j → base ≤ j ∧ j < w.heap.size := h.rs.lt
  have hbb : some mb ≠ (L 5).ownBlock := fun e => by have := (hrow mb e.symm).1; have := h.mf.hbb; omega
  have hrc : (L 6).ownBlock = none ∨ (L 6).ownBlock ≠ (L 5).ownBlock := owns_kind h.rc h.rs (by decide)
  have hK := (Kx.refl base mb w).grown hg h.mf.hba (fun j hj => (hrow j hj).1)
  refine ⟨⟨(h.bx.grown hg hbb).set 5 v (by omega), h.lm.own 5 v (by omega) l m.cal, ?_, ?_, h.mf.kx (hK.set 5 v)⟩, hK.set 5 v⟩
  · rw [updV_at]; exact ownsRow_setCell_below ho (by exact h.mf.hbb) _
  · rw [updV_ne _ _ _ _ (by omega)]; exact ownsRow_setCell_below (h.rc.kept hg hrc) (by exact h.mf.hbb) _
/-- the calls behind an append. -/
theorem Mc.grownC {s inp : ByteArray} {n mb bs bc cs base : Nat} {m : Im.St} {en : Bool} {L : Nat → Value} {w w1 : World} (h : Mc s inp n mb bs bc cs base m en L w) (hg : w.grownBy w1 (L 6).ownBlock) (l : List (Nat × Nat)) (v : Value) (ho : w1.ownsRow base 34 2 v l.length (prs l)) :
    Mc s inp n mb bs bc cs base { m with cal := l } en (updV L 6 v) (w1.setCell ⟨mb, 6, none⟩ v) ∧ Kx base mb w (w1.setCell ⟨mb, 6, none⟩ v) := by
  have hrow : ∀ j, (L 6).ownBlock = some j → base ≤ j ∧ j < w.heap.size := h.rc.lt
  have hbb : some mb ≠ (L 6).ownBlock := fun e => by have := (hrow mb e.symm).1; have := h.mf.hbb; omega
  have hrs : (L 5).ownBlock = none ∨ (L 5).ownBlock ≠ (L 6).ownBlock := owns_kind h.rs h.rc (by decide)
  have hK := (Kx.refl base mb w).grown hg h.mf.hba (fun j hj => (hrow j hj).1)
  refine ⟨⟨(h.bx.grown hg hbb).set 6 v (by omega), h.lm.own 6 v (by omega) m.stk l, ?_, ?_, h.mf.kx (hK.set 6 v)⟩, hK.set 6 v⟩
  · rw [updV_ne _ _ _ _ (by omega)]; exact ownsRow_setCell_below (h.rs.kept hg hrs) (by exact h.mf.hbb) _
  · rw [updV_at]; exact ownsRow_setCell_below ho (by exact h.mf.hbb) _

theorem Lm.setFn {s inp : ByteArray} {n bs bc cs : Nat} {m : Im.St} {en : Bool} {L : Nat → Value} (h : Lm s inp n bs bc cs m en L) (a : Nat) : Lm s inp n bs bc cs { m with fn := a } en (updV L 0 (.int .i64 (a : Nat))) where
  l0 := updV_at _ _ _
  l1 := (updV_ne _ _ _ _ (by omega)).trans h.l1
  l2 := (updV_ne _ _ _ _ (by omega)).trans h.l2
  l3 := (updV_ne _ _ _ _ (by omega)).trans h.l3
  l4 := by rw [updV_ne _ _ _ _ (by omega)]; exact h.l4
  lc i hi := (updV_ne _ _ _ _ (by omega)).trans (h.lc i hi)
  le i hi := (updV_ne _ _ _ _ (by omega)).trans (h.le i hi)
  l423 := (updV_ne _ _ _ _ (by omega)).trans h.l423
theorem Lm.setAt {s inp : ByteArray} {n bs bc cs : Nat} {m : Im.St} {en : Bool} {L : Nat → Value} (h : Lm s inp n bs bc cs m en L) (a : Nat) : Lm s inp n bs bc cs { m with at_ := a } en (updV L 1 (.int .i64 (a : Nat))) where
  l0 := (updV_ne _ _ _ _ (by omega)).trans h.l0
  l1 := updV_at _ _ _
  l2 := (updV_ne _ _ _ _ (by omega)).trans h.l2
  l3 := (updV_ne _ _ _ _ (by omega)).trans h.l3
  l4 := by rw [updV_ne _ _ _ _ (by omega)]; exact h.l4
  lc i hi := (updV_ne _ _ _ _ (by omega)).trans (h.lc i hi)
  le i hi := (updV_ne _ _ _ _ (by omega)).trans (h.le i hi)
  l423 := (updV_ne _ _ _ _ (by omega)).trans h.l423
theorem Lm.setIn {s inp : ByteArray} {n bs bc cs : Nat} {m : Im.St} {en : Bool} {L : Nat → Value} (h : Lm s inp n bs bc cs m en L) (p : Nat) (t : ByteArray) (ht : Suf inp p t) : Lm s inp n bs bc cs { m with pos := p } en (updV L 4 (.string t)) where
  l0 := (updV_ne _ _ _ _ (by omega)).trans h.l0
  l1 := (updV_ne _ _ _ _ (by omega)).trans h.l1
  l2 := (updV_ne _ _ _ _ (by omega)).trans h.l2
  l3 := (updV_ne _ _ _ _ (by omega)).trans h.l3
  l4 := ⟨t, updV_at _ _ _, ht⟩
  lc i hi := (updV_ne _ _ _ _ (by omega)).trans (h.lc i hi)
  le i hi := (updV_ne _ _ _ _ (by omega)).trans (h.le i hi)
  l423 := (updV_ne _ _ _ _ (by omega)).trans h.l423
theorem Lm.setCel {s inp : ByteArray} {n bs bc cs : Nat} {m : Im.St} {en : Bool} {L : Nat → Value} (h : Lm s inp n bs bc cs m en L) (j a : Nat) (hj : j < 16) : Lm s inp n bs bc cs { m with cel := Im.upc m.cel j a } en (updV L (7 + j) (.int .u8 (a : Nat))) where
  l0 := (updV_ne _ _ _ _ (by omega)).trans h.l0
  l1 := (updV_ne _ _ _ _ (by omega)).trans h.l1
  l2 := (updV_ne _ _ _ _ (by omega)).trans h.l2
  l3 := (updV_ne _ _ _ _ (by omega)).trans h.l3
  l4 := by rw [updV_ne _ _ _ _ (by omega)]; exact h.l4
  lc i hi := by
    by_cases he : i = j
    · subst he; rw [updV_at]; simp [Im.upc]
    · rw [updV_ne _ _ _ _ (by omega), h.lc i hi]; simp [Im.upc, he]
  le i hi := (updV_ne _ _ _ _ (by omega)).trans (h.le i hi)
  l423 := (updV_ne _ _ _ _ (by omega)).trans h.l423
theorem Lm.setEdg {s inp : ByteArray} {n bs bc cs : Nat} {m : Im.St} {en : Bool} {L : Nat → Value} (h : Lm s inp n bs bc cs m en L) (j : Nat) (hj : j < 400) : Lm s inp n bs bc cs { m with edg := Im.up m.edg j } en (updV L (23 + j) (.bool true)) where
  l0 := (updV_ne _ _ _ _ (by omega)).trans h.l0
  l1 := (updV_ne _ _ _ _ (by omega)).trans h.l1
  l2 := (updV_ne _ _ _ _ (by omega)).trans h.l2
  l3 := (updV_ne _ _ _ _ (by omega)).trans h.l3
  l4 := by rw [updV_ne _ _ _ _ (by omega)]; exact h.l4
  lc i hi := (updV_ne _ _ _ _ (by omega)).trans (h.lc i hi)
  le i hi := by
    by_cases he : i = j
    · subst he; rw [updV_at]; simp [Im.up]
    · rw [updV_ne _ _ _ _ (by omega), h.le i hi]; simp [Im.up, he]
  l423 := (updV_ne _ _ _ _ (by omega)).trans h.l423
theorem Lm.setEnd {s inp : ByteArray} {n bs bc cs : Nat} {m : Im.St} {en : Bool} {L : Nat → Value} (h : Lm s inp n bs bc cs m en L) (b : Bool) : Lm s inp n bs bc cs m b (updV L 423 (.bool b)) where
  l0 := (updV_ne _ _ _ _ (by omega)).trans h.l0
  l1 := (updV_ne _ _ _ _ (by omega)).trans h.l1
  l2 := (updV_ne _ _ _ _ (by omega)).trans h.l2
  l3 := (updV_ne _ _ _ _ (by omega)).trans h.l3
  l4 := by rw [updV_ne _ _ _ _ (by omega)]; exact h.l4
  lc i hi := (updV_ne _ _ _ _ (by omega)).trans (h.lc i hi)
  le i hi := (updV_ne _ _ _ _ (by omega)).trans (h.le i hi)
  l423 := updV_at _ _ _

/-- nothing old turns but the machine's struct and the rows that it owns; its rows stay where they are, or are new. -/
structure Kp (mb : Nat) (w : World) (L : Nat → Value) (w' : World) (L' : Nat → Value) : Prop where
  os : w'.os = w.os
  tape : w'.tape = w.tape
  output : w'.output = w.output
  size : w.heap.size ≤ w'.heap.size
  block : ∀ k, k < w.heap.size → k ≠ mb → (L 5).ownBlock ≠ some k → (L 6).ownBlock ≠ some k → w'.heap[k]? = w.heap[k]?
  r5 : ∀ k, (L' 5).ownBlock = some k → (L 5).ownBlock = some k ∨ w.heap.size ≤ k
  r6 : ∀ k, (L' 6).ownBlock = some k → (L 6).ownBlock = some k ∨ w.heap.size ≤ k
theorem Kp.refl (mb : Nat) (w : World) (L : Nat → Value) : Kp mb w L w L := ⟨rfl, rfl, rfl, Nat.le_refl _, fun _ _ _ _ _ => rfl, fun _ h => Or.inl h, fun _ h => Or.inl h⟩
theorem Kp.trans {mb : Nat} {w w1 w2 : World} {L L1 L2 : Nat → Value} (h : Kp mb w L w1 L1) (k : Kp mb w1 L1 w2 L2) : Kp mb w L w2 L2 where
  os := k.os.trans h.os
  tape := k.tape.trans h.tape
  output := k.output.trans h.output
  size := Nat.le_trans h.size k.size
  block j hj hne h5 h6 := (k.block j (Nat.lt_of_lt_of_le hj h.size) hne (fun e => by rcases h.r5 j e with x | x; exact h5 x; omega) (fun e => by rcases h.r6 j e with x | x; exact h6 x; omega)).trans (h.block j hj hne h5 h6)
  r5 j hj := by
    rcases k.r5 j hj with x | x
    · exact h.r5 j x
    · right; exact Nat.le_trans h.size x
  r6 j hj := by
    rcases k.r6 j hj with x | x
    · exact h.r6 j x
    · right; exact Nat.le_trans h.size x
theorem Kp.kx {s inp : ByteArray} {n mb bs bc cs base : Nat} {m : Im.St} {en : Bool} {w w1 : World} {L L1 : Nat → Value} (h : Kp mb w L w1 L1) (hM : Mc s inp n mb bs bc cs base m en L w) : Kx base mb w w1 :=
  ⟨h.os, h.tape, h.output, h.size, fun k hk hne => h.block k (Nat.lt_of_lt_of_le hk hM.mf.hba) hne (fun e => by have := (hM.rs.lt k e).1; omega) (fun e => by have := (hM.rc.lt k e).1; omega)⟩
theorem Kp.set {mb : Nat} {w w1 : World} {L L1 : Nat → Value} (h : Kp mb w L w1 L1) (o : Nat) (v : Value) (h5 : o ≠ 5) (h6 : o ≠ 6) : Kp mb w L (w1.setCell ⟨mb, o, none⟩ v) (updV L1 o v) :=
  ⟨h.os, h.tape, h.output, by simpa using h.size, fun k hk hne a b => (Below.heap_setCell _ _ _ _ hne).trans (h.block k hk hne a b), by rw [updV_ne _ _ _ _ (by omega)]; exact h.r5, by rw [updV_ne _ _ _ _ (by omega)]; exact h.r6⟩
theorem Kp.drewN {mb : Nat} {w w1 : World} {L L1 : Nat → Value} (h : Kp mb w L w1 L1) (q : Nat) : Kp mb w L (w1.drewN q) L1 := ⟨h.os, h.tape, h.output, h.size, h.block, h.r5, h.r6⟩
theorem Kp.below {mb : Nat} {w w1 w2 : World} {L L1 : Nat → Value} (h : Kp mb w L w1 L1) (hb : Below w1.heap.size w1 w2) : Kp mb w L w2 L1 :=
  ⟨hb.os.trans h.os, hb.tape.trans h.tape, hb.output.trans h.output, Nat.le_trans h.size hb.size, fun k hk hne a b => (hb.block k (Nat.lt_of_lt_of_le hk h.size)).trans (h.block k hk hne a b), h.r5, h.r6⟩
theorem Kp.alloc {mb : Nat} {w w1 : World} {L L1 : Nat → Value} (h : Kp mb w L w1 L1) (o : Obj) : Kp mb w L (w1.alloc o) L1 := h.below ((Below.refl _ _).alloc (Nat.le_refl _) o)
theorem Kp.out {mb : Nat} {w w1 : World} {L L1 : Nat → Value} (h : Kp mb w L w1 L1) (b o : Nat) (v : Value) (hb : w.heap.size ≤ b) : Kp mb w L (w1.setCell ⟨b, o, none⟩ v) L1 :=
  ⟨h.os, h.tape, h.output, by simpa using h.size, fun k hk hne x y => (Below.heap_setCell _ _ _ _ (by show k ≠ b; omega)).trans (h.block k hk hne x y), h.r5, h.r6⟩
theorem Kp.setS {mb : Nat} {w w1 : World} {L L1 : Nat → Value} (h : Kp mb w L w1 L1) (v : Value) (hv : v.ownBlock = (L1 5).ownBlock) : Kp mb w L (w1.setCell ⟨mb, 5, none⟩ v) (updV L1 5 v) :=
  ⟨h.os, h.tape, h.output, by simpa using h.size, fun k hk hne a b => (Below.heap_setCell _ _ _ _ hne).trans (h.block k hk hne a b), by rw [updV_at, hv]; exact h.r5, by rw [updV_ne _ _ _ _ (by omega)]; exact h.r6⟩
theorem Kp.setC {mb : Nat} {w w1 : World} {L L1 : Nat → Value} (h : Kp mb w L w1 L1) (v : Value) (hv : v.ownBlock = (L1 6).ownBlock) : Kp mb w L (w1.setCell ⟨mb, 6, none⟩ v) (updV L1 6 v) :=
  ⟨h.os, h.tape, h.output, by simpa using h.size, fun k hk hne a b => (Below.heap_setCell _ _ _ _ hne).trans (h.block k hk hne a b), by rw [updV_ne _ _ _ _ (by omega)]; exact h.r5, by rw [updV_at, hv]; exact h.r6⟩
theorem Kp.grownS {mb : Nat} {w w1 w2 : World} {L L1 : Nat → Value} (h : Kp mb w L w1 L1) (hg : w1.grownBy w2 (L1 5).ownBlock) (v : Value) (hf : Fresh w1 (L1 5) v) : Kp mb w L (w2.setCell ⟨mb, 5, none⟩ v) (updV L1 5 v) where
  os := hg.os.trans h.os
  tape := hg.tape.trans h.tape
  output := hg.output.trans h.output
  size := by have := h.size; have := hg.size; simp; omega
  block k hk hne a b := (Below.heap_setCell _ _ _ _ hne).trans ((hg.block k (Nat.lt_of_lt_of_le hk h.size) (fun e => by rcases h.r5 k e.symm with x | x; exact a x; omega)).trans (h.block k hk hne a b))
  r5 k hk := by
    rw [updV_at] at hk
    rcases hf k hk with x | x
    · exact h.r5 k x
    · right; exact Nat.le_trans h.size x
  r6 := by rw [updV_ne _ _ _ _ (by omega)]; exact h.r6
theorem Kp.grownC {mb : Nat} {w w1 w2 : World} {L L1 : Nat → Value} (h : Kp mb w L w1 L1) (hg : w1.grownBy w2 (L1 6).ownBlock) (v : Value) (hf : Fresh w1 (L1 6) v) : Kp mb w L (w2.setCell ⟨mb, 6, none⟩ v) (updV L1 6 v) where
  os := hg.os.trans h.os
  tape := hg.tape.trans h.tape
  output := hg.output.trans h.output
  size := by have := h.size; have := hg.size; simp; omega
  block k hk hne a b := (Below.heap_setCell _ _ _ _ hne).trans ((hg.block k (Nat.lt_of_lt_of_le hk h.size) (fun e => by rcases h.r6 k e.symm with x | x; exact b x; omega)).trans (h.block k hk hne a b))
  r5 := by rw [updV_ne _ _ _ _ (by omega)]; exact h.r5
  r6 k hk := by
    rw [updV_at] at hk
    rcases hf k hk with x | x
    · exact h.r6 k x
    · right; exact Nat.le_trans h.size x
end Go.Proofs.YtbmaiioecnmopaaGreatDoor

/-
  THE PROGRAM's SIDE (package triage): push, pop, top, flag, edge, behind. By the verifier of the loop 'triage'.
-/
namespace Go.Proofs.YtbmaiioecnmopaaGreatDoor
open Go.RowKit

/-- how pop ends. -/
def CPop (s inp : ByteArray) (n mb bs bc cs base : Nat) (m : Im.St) (en : Bool) (L : Nat → Value) (w w' : World) (e : Ending) : Prop :=
  e = .returned (.int .u8 (Im.top m.stk : Nat)) ∧ ∃ L', Mc s inp n mb bs bc cs base { m with stk := m.stk.take (m.stk.length - 1) } en L' w' ∧ Kp mb w L w' L'

set_option maxHeartbeats 1600000 in
theorem cpop_any (s inp : ByteArray) (n mb bs bc cs base : Nat) (m : Im.St) (en : Bool) (L : Nat → Value) (w : World) (hM : Mc s inp n mb bs bc cs base m en L w) (hl : 0 < m.stk.length) (hl2 : m.stk.length ≤ 100) :
    Calls Tryz.prog 72 #[.pointer (some ⟨mb, 0, none⟩)] w fun e w' => CPop s inp n mb bs bc cs base m en L w w' e := by
  obtain ⟨g, cap, hv, hgb, hnc, hcm, hgl, hcells⟩ := owns_some hM.rs hl
  have c5 := hM.bx.cell 5 (by omega)
  rw [hv] at c5
  have ct := hcells (m.stk.length - 1) _ (byts_get m.stk (m.stk.length - 1) (by omega))
  have hf5 := hM.bx.frz 5
  have hgne : g ≠ mb := by have := hM.mf.hbb; omega
  have HP : Hid (∀ nq, CPop s inp n mb bs bc cs base m en L w ((w.setCell ⟨mb, 5, none⟩ (.slice (some ⟨g, 0, none⟩) (m.stk.length - 1) cap)).drewN nq) (.returned (.int .u8 (Im.top m.stk : Nat)))) := by
    intro nq
    refine ⟨rfl, updV L 5 (.slice (some ⟨g, 0, none⟩) (m.stk.length - 1) cap), ?_, ((Kp.refl mb w L).setS _ (by rw [hv]; rfl)).drewN _⟩
    have hrs := hM.rs
    rw [hv] at hrs
    refine (hM.setS _ _ ?_).drewN nq
    rw [byts_take, List.length_take, Nat.min_eq_left (by omega)]
    exact owns_take hrs (by omega)
  clear hcells hM hv
  rw [show m.stk[m.stk.length - 1]?.getD 0 = Im.top m.stk from rfl] at ct
  generalize Im.top m.stk = x at *
  obtain ⟨q, hq⟩ : ∃ q, m.stk.length = q + 1 := ⟨m.stk.length - 1, by omega⟩
  rw [hq] at c5 ct HP hnc hl2
  rw [Nat.add_sub_cancel] at ct HP
  unfold maxLen at hcm
  clear hq hl
  go_enter Tryz.func72, Tryz.ntmps72
  go_wp2
  go_ret
  exact HP.out 0

/-- how push ends. -/
def CPush (s inp : ByteArray) (n mb bs bc cs base : Nat) (m : Im.St) (en : Bool) (y : Nat) (L : Nat → Value) (w w' : World) (e : Ending) : Prop :=
  e = .returned (.int .i64 0) ∧ ∃ L', Mc s inp n mb bs bc cs base { m with stk := m.stk ++ [y] } en L' w' ∧ Kp mb w L w' L'

set_option maxHeartbeats 1600000 in
theorem cpush_full (s inp : ByteArray) (n mb bs bc cs base : Nat) (m : Im.St) (en : Bool) (L : Nat → Value) (y : Nat) (w : World) (hM : Mc s inp n mb bs bc cs base m en L w) (hl : m.stk.length = 16) :
    Calls Tryz.prog 73 #[.pointer (some ⟨mb, 0, none⟩), .int .u8 (y : Nat)] w fun e w' => e = .returned (.int .i64 2) ∧ w = w' := by
  obtain ⟨a, cap, hv, -, -, -⟩ := owns_shape hM.rs
  have c5 := hM.bx.cell 5 (by omega)
  rw [hv, hl] at c5
  clear hM hv
  go_enter Tryz.func73, Tryz.ntmps73
  go_wp2
  go_ret
  exact ⟨rfl, rfl⟩

set_option maxHeartbeats 1600000 in
set_option maxRecDepth 100000 in
theorem cpush_any (s inp : ByteArray) (n mb bs bc cs base : Nat) (m : Im.St) (en : Bool) (L : Nat → Value) (y : Nat) (w : World) (hM : Mc s inp n mb bs bc cs base m en L w) (hl : m.stk.length < 16) :
    Calls Tryz.prog 73 #[.pointer (some ⟨mb, 0, none⟩), .int .u8 (y : Nat)] w fun e w' => CPush s inp n mb bs bc cs base m en y L w w' e := by
  obtain ⟨i0, hi, hz0, hz1, hz2⟩ := info_parts Tryz.infoByte
  have hbq : ((m.stk.length : Int) == 16) = false := by rw [beq_eq_false_iff_ne]; omega
  have c5 := hM.bx.cell 5 (by omega)
  have hf5 := hM.bx.frz 5
  have hown := hM.rs
  obtain ⟨a5, cap5, hv5, -, -, -⟩ := owns_shape hM.rs
  have hba := hM.mf.hba
  have hbb := hM.mf.hbb
  have hbl := hM.bx.lt
  have HM : Hid (Mc s inp n mb bs bc cs base m en L w) := hM
  have HV : Hid (L 5 = .slice a5 m.stk.length cap5) := hv5
  rw [hv5] at c5 hown
  clear hM hv5
  go_enter Tryz.func73, Tryz.ntmps73
  go_wp2_with (at_builtin; refine wpList_append_fresh rfl _ _ 120 rfl base 5 i0 (.int .u8 0) 1 1 Tryz.undBytes hi hz0 hz1 hz2 rfl (by decide) _ _ _ rfl (hown.alloc _) ⟨w.heap.size, 0, none⟩ 1 1 [.int .u8 y] rfl rfl ?c1 ?c2 ?c3 ?c4 ?c5 ?_)
  case c1 =>
    intro i u hj
    match i, hj with
    | 0, hj => simp at hj; subst hj; simp [Addr.add]
  case c2 => intro u hu; simp at hu; subst hu; rfl
  case c3 => unfold maxLen; omega
  case c4 => omega
  case c5 => simp; omega
  · intro v' w1 hown' hgrow hfr
    have hrow : some mb ≠ Value.ownBlock (.slice a5 m.stk.length cap5) := fun e => by have := (hown.lt mb e.symm).1; omega
    have c5' : w1.cell? ⟨mb, 5, none⟩ = some (.slice a5 m.stk.length cap5) := hgrow.cell ((World.cell?_alloc_lt _ _ ⟨mb, 5, none⟩ hbl).trans c5) hrow
    have f5' : w1.frozen? ⟨mb, 5, none⟩ = false := (World.frozen?_of_block (a := ⟨mb, 5, none⟩) (hgrow.block mb (by simp; omega) hrow)).trans ((World.frozen?_alloc_old _ _ ⟨mb, 5, none⟩ (Nat.ne_of_lt hbl)).trans hf5)
    have HP : Hid (CPush s inp n mb bs bc cs base m en y L w (w1.setCell ⟨mb, 5, none⟩ v') (.returned (.int .i64 0))) := by
      have hA := HM.out.alloc (.cells #[.int .u8 y] 5)
      have hs := hA.grownS (w1 := w1) (by rw [HV.out]; exact hgrow) (m.stk ++ [y]) v' (by simpa [byts] using hown')
      exact ⟨rfl, _, hs.1, ((Kp.refl mb w L).alloc _).grownS (by rw [HV.out]; exact hgrow) v' (by rw [HV.out]; exact hfr)⟩
    obtain ⟨g', cap', hv', -⟩ := owns_some hown' (by omega)
    clear hown' hgrow hfr hown
    subst hv'
    go_wp2
    go_ret
    exact HP.out

set_option maxHeartbeats 1600000 in
theorem ctop_any (s inp : ByteArray) (n mb bs bc cs base : Nat) (m : Im.St) (en : Bool) (L : Nat → Value) (w : World) (hM : Mc s inp n mb bs bc cs base m en L w) (hl2 : m.stk.length ≤ 100) (hv : ∀ x, x ∈ m.stk → x < 256) :
    Calls Tryz.prog 50 #[.pointer (some ⟨mb, 0, none⟩)] w fun e w' => e = .returned (.int .i64 (topI m.stk)) ∧ ∃ q, w' = w.drewN q := by
  have c5 := hM.bx.cell 5 (by omega)
  by_cases hl : m.stk.length = 0
  · obtain ⟨a, cap, hvv, -, -, -⟩ := owns_shape hM.rs
    rw [hvv, hl] at c5
    have HT : Hid (topI m.stk = -1) := by show _ = _; unfold topI; rw [if_pos hl]
    clear hM hv hvv
    go_enter Tryz.func50, Tryz.ntmps50
    go_wp2
    go_ret
    exact ⟨ret_int HT.out.symm, 0, rfl⟩
  · obtain ⟨g, cap, hvv, hgb, hnc, hcm, hgl, hcells⟩ := owns_some hM.rs (by omega)
    rw [hvv] at c5
    have hx256 : m.stk[m.stk.length - 1]?.getD 0 < 256 := hv _ (Im.top_mem m.stk (by omega))
    have ct := hcells (m.stk.length - 1) _ (byts_get m.stk (m.stk.length - 1) (by omega))
    have HT : Hid (topI m.stk = (m.stk[m.stk.length - 1]?.getD 0 : Nat)) := by show _ = _; unfold topI; rw [if_neg hl]; rfl
    generalize m.stk[m.stk.length - 1]?.getD 0 = x at *
    obtain ⟨q, hq⟩ : ∃ q, m.stk.length = q + 1 := ⟨m.stk.length - 1, by omega⟩
    have hq0 : (((q + 1 : Nat) : Int) == 0) = false := by rw [beq_eq_false_iff_ne]; omega
    rw [hq] at c5 ct hnc hl2
    rw [Nat.add_sub_cancel] at ct
    unfold maxLen at hcm
    clear hq hl hM hcells hv hvv
    go_enter Tryz.func50, Tryz.ntmps50
    go_wp2
    go_quiet (fail)
    go_wp2
    go_ret
    exact ⟨ret_int HT.out.symm, _, rfl⟩

theorem cflag_any (b : Bool) (w : World) : Calls Tryz.prog 77 #[.bool b] w fun e w' => e = .returned (.int .u8 (if b then 1 else 0 : Nat)) ∧ w = w' := by
  cases b
  all_goals
    go_enter Tryz.func77, Tryz.ntmps77
    go_wp2
    go_ret
    exact ⟨by simp, rfl⟩
theorem cedge_any (f a : Nat) (b : Bool) (w : World) (ha : a ≤ 1000) : Calls Tryz.prog 75 #[.agg #[.int .i64 (f : Nat), .int .i64 (a : Nat)], .bool b] w fun e w' => e = .returned (.int .i64 ((2 * a + (if b then 1 else 0) : Nat) : Int)) ∧ w' = w.alloc (.cells #[.int .i64 (f : Nat), .int .i64 (a : Nat)] 34) := by
  cases b
  all_goals
    go_enter Tryz.func75, Tryz.ntmps75
    go_wp2
    go_ret
    exact ⟨ret_int (by first | go_num | (simp; omega)), rfl⟩
end Go.Proofs.YtbmaiioecnmopaaGreatDoor

/-
  THE PROGRAM's SIDE (package triage): behind, nextByte, goBack. By the verifier of the loop 'triage'.
-/
namespace Go.Proofs.YtbmaiioecnmopaaGreatDoor
open Go.RowKit

theorem cast_add2 (a b : Nat) : ((a + b : Nat) : Int) = (a : Int) + (b : Int) := by omega
theorem grown_of_below {w w' : World} (h : Below w.heap.size w w') : w.grownBy w' none := ⟨h.os, h.tape, h.output, h.size, fun j hj _ => h.block j hj⟩
theorem Mc.below {s inp : ByteArray} {n mb bs bc cs base : Nat} {m : Im.St} {en : Bool} {L : Nat → Value} {w w' : World} (h : Mc s inp n mb bs bc cs base m en L w) (hb : Below w.heap.size w w') : Mc s inp n mb bs bc cs base m en L w' ∧ Kx base mb w w' := by
  have hg := grown_of_below hb
  have hK := (Kx.refl base mb w).grown hg h.mf.hba (fun j hj => by simp at hj)
  exact ⟨⟨h.bx.grown hg (by simp), h.lm, h.rs.kept hg (by rcases hx : (L 5).ownBlock with _ | x; exact Or.inl rfl; exact Or.inr (by simp)), h.rc.kept hg (by rcases hx : (L 6).ownBlock with _ | x; exact Or.inl rfl; exact Or.inr (by simp)), h.mf.kx hK⟩, hK⟩

/-- a cell of a block of nobody's is set. -/
theorem Mc.out {s inp : ByteArray} {n mb bs bc cs base : Nat} {m : Im.St} {en : Bool} {L : Nat → Value} {w : World} (h : Mc s inp n mb bs bc cs base m en L w) (b o : Nat) (v : Value) (hb : base ≤ b) (h5 : (L 5).ownBlock ≠ some b) (h6 : (L 6).ownBlock ≠ some b) :
    Mc s inp n mb bs bc cs base m en L (w.setCell ⟨b, o, none⟩ v) ∧ Kx base mb w (w.setCell ⟨b, o, none⟩ v) := by
  have hne : mb ≠ b := by have := h.mf.hbb; omega
  have hK : Kx base mb w (w.setCell ⟨b, o, none⟩ v) := ⟨rfl, rfl, rfl, by simp, fun k hk _ => Below.heap_setCell _ _ _ _ (by show k ≠ b; omega)⟩
  have hbl : (w.setCell ⟨b, o, none⟩ v).heap[mb]? = w.heap[mb]? := Below.heap_setCell _ _ _ _ hne
  exact ⟨⟨⟨fun o' ho' => (World.cell?_of_block (a := ⟨mb, o', none⟩) hbl).trans (h.bx.cell o' ho'), fun o' => (World.frozen?_of_block (a := ⟨mb, o', none⟩) hbl).trans (h.bx.frz o'), by simpa using h.bx.lt⟩, h.lm, ownsRow_setCell_other h.rs h5 _, ownsRow_setCell_other h.rc h6 _, h.mf.kx hK⟩, hK⟩
theorem row_ne {w : World} {base : Nat} {e : TypeId} {size : Nat} {v : Value} {n : Nat} {xs : List Value} (h : w.ownsRow base e size v n xs) {b : Nat} (hb : w.heap.size ≤ b) : v.ownBlock ≠ some b := fun e => by have := (h.lt b e).2; omega

set_option maxHeartbeats 1600000 in
theorem cbehind_any (s inp : ByteArray) (n mb bs bc cs base : Nat) (m : Im.St) (en : Bool) (L : Nat → Value) (f a : Nat) (w : World) (hM : Mc s inp n mb bs bc cs base m en L w) (ha : a ∈ allD s n) (hs : a < s.size) (hs2 : s.size ≤ 200) :
    Calls Tryz.prog 70 #[.pointer (some ⟨mb, 0, none⟩), .agg #[.int .i64 (f : Nat), .int .i64 (a : Nat)]] w fun e w' => e = .returned (.agg #[.int .i64 (f : Nat), .int .i64 ((a + Im.sz (Im.bt s a) : Nat) : Int)]) ∧ Below w.heap.size w w' := by
  have c3 := hM.bx.cell 3 (by omega)
  rw [hM.lm.l3] at c3
  have d1 := hM.mf.c1 a ha
  have hlt := hM.bx.lt
  have hltc : bc < w.heap.size := by have := hM.mf.hbc; have := hM.mf.hba; omega
  have hz : Im.sz (Im.bt s a) ≤ 2 := by unfold Im.sz; split <;> (try split) <;> omega
  clear hM
  generalize Im.sz (Im.bt s a) = z at *
  go_enter Tryz.func70, Tryz.ntmps70
  go_wp2
  go_region
  go_wp2
  exact bodyPost_ret (v := .agg #[.int .i64 (f : Nat), .int .i64 ((a : Int) + z)]) (by simp [results, Tryz.results70, go_sem]) rfl ⟨by rw [cast_add2], (((Below.refl w.heap.size w).alloc (Nat.le_refl _) _).alloc (by simp) _).drew⟩

theorem cnext_none (s inp : ByteArray) (n mb bs bc cs base : Nat) (m : Im.St) (en : Bool) (L : Nat → Value) (w : World) (hM : Mc s inp n mb bs bc cs base m en L w) (hp : ¬ m.pos < inp.size) :
    Calls Tryz.prog 76 #[.pointer (some ⟨mb, 0, none⟩)] w fun e w' => e = .returned (.int .u8 0) ∧ w = w' := by
  obtain ⟨t, ht, hsf⟩ := hM.lm.l4
  have c4 := hM.bx.cell 4 (by omega)
  rw [ht] at c4
  have he := str_empty t (by have := hsf.sz; omega)
  clear hM hsf ht
  go_enter Tryz.func76, Tryz.ntmps76
  go_wp2
  go_ret
  exact ⟨rfl, rfl⟩

theorem bt_extract (t : ByteArray) (a b i : Nat) (h : a + i < b) (hb : b ≤ t.size) : Im.bt (t.extract a b) i = Im.bt t (a + i) := by
  unfold Im.bt
  have h1 : i < (t.extract a b).size := by rw [ByteArray.size_extract]; omega
  rw [dif_pos h1, dif_pos (by omega), ByteArray.getElem_extract]
theorem Suf.next {inp t : ByteArray} {p : Nat} (h : Suf inp p t) (hp : p < inp.size) : Suf inp (p + 1) (t.extract 1 (inp.size - p)) := by
  have hs := h.sz
  constructor
  · rw [ByteArray.size_extract]; omega
  · intro i hi
    rw [bt_extract t 1 _ i (by omega) (by omega), h.at_ (1 + i) (by omega)]
    congr 1; omega
/-- how nextByte ends, where there is one. -/
def CNext (s inp : ByteArray) (n mb bs bc cs base : Nat) (m : Im.St) (en : Bool) (L : Nat → Value) (w w' : World) (e : Ending) : Prop :=
  e = .returned (.int .u8 (Im.bt inp m.pos : Nat)) ∧ ∃ L', Mc s inp n mb bs bc cs base { m with pos := m.pos + 1 } en L' w' ∧ Kp mb w L w' L'

set_option maxHeartbeats 1600000 in
theorem cnext_some (s inp : ByteArray) (n mb bs bc cs base : Nat) (m : Im.St) (en : Bool) (L : Nat → Value) (w : World) (hM : Mc s inp n mb bs bc cs base m en L w) (hp : m.pos < inp.size) (hi : inp.size ≤ 24) :
    Calls Tryz.prog 76 #[.pointer (some ⟨mb, 0, none⟩)] w fun e w' => CNext s inp n mb bs bc cs base m en L w w' e := by
  obtain ⟨t, ht, hsf⟩ := hM.lm.l4
  have c4 := hM.bx.cell 4 (by omega)
  have z4 := hM.bx.frz 4
  rw [ht] at c4
  have hsz := hsf.sz
  have he := str_some t (by omega)
  have hb0 := hsf.at_ 0 (by omega)
  have hts : 0 < t.size := by omega
  have hts2 : t.size ≤ 24 := by omega
  have hbt := Im.bt_eq t 0 hts
  have HP : Hid (CNext s inp n mb bs bc cs base m en L w (w.setCell ⟨mb, 4, none⟩ (.string (t.extract 1 (inp.size - m.pos)))) (.returned (.int .u8 (Im.bt inp m.pos : Nat)))) :=
    ⟨rfl, _, hM.set 4 _ (by omega) (by omega) (by omega) (hM.lm.setIn (m.pos + 1) _ (hsf.next hp)) rfl rfl, (Kp.refl mb w L).set 4 _ (by omega) (by omega)⟩
  clear hM ht
  go_enter Tryz.func76, Tryz.ntmps76
  go_wp2
  go_ret
  exact HP.out

/-- how goBack ends, where a call is left. -/
def CBack (s inp : ByteArray) (n mb bs bc cs base : Nat) (m : Im.St) (en : Bool) (L : Nat → Value) (w w' : World) (e : Ending) : Prop :=
  e = .returned (.agg #[.int .i64 ((m.cal[m.cal.length - 1]?.getD (0, 0)).1 : Nat), .int .i64 (((m.cal[m.cal.length - 1]?.getD (0, 0)).2 + 2 : Nat) : Int)]) ∧ ∃ L', Mc s inp n mb bs bc cs base { m with cal := m.cal.take (m.cal.length - 1) } en L' w' ∧ Kp mb w L w' L'
/-- how it ends, where there is none. -/
def CBack0 (s inp : ByteArray) (n mb bs bc cs base : Nat) (m : Im.St) (L : Nat → Value) (w w' : World) (e : Ending) : Prop :=
  e = .returned (.agg #[.int .i64 (m.fn : Nat), .int .i64 (m.at_ : Nat)]) ∧ ∃ L', Mc s inp n mb bs bc cs base m true L' w' ∧ Kp mb w L w' L'

set_option maxHeartbeats 1600000 in
theorem cback_none (s inp : ByteArray) (n mb bs bc cs base : Nat) (m : Im.St) (en : Bool) (L : Nat → Value) (w : World) (hM : Mc s inp n mb bs bc cs base m en L w) (hc : m.cal.length = 0) :
    Calls Tryz.prog 71 #[.pointer (some ⟨mb, 0, none⟩)] w fun e w' => CBack0 s inp n mb bs bc cs base m L w w' e := by
  obtain ⟨a, cap, hv, -, -, -⟩ := owns_shape hM.rc
  have c6 := hM.bx.cell 6 (by omega)
  rw [hv, hc] at c6
  have c0 := hM.bx.cell 0 (by omega)
  have c1 := hM.bx.cell 1 (by omega)
  have c423 := hM.bx.cell 423 (by omega)
  have z423 := hM.bx.frz 423
  rw [hM.lm.l0] at c0
  rw [hM.lm.l1] at c1
  rw [hM.lm.l423] at c423
  have hlt := hM.bx.lt
  have HM : Hid (Mc s inp n mb bs bc cs base m en L w) := hM
  clear hM hv
  go_enter Tryz.func71, Tryz.ntmps71
  go_wp2
  exact bodyPost_ret (v := .agg #[.int .i64 (m.fn : Nat), .int .i64 (m.at_ : Nat)]) (by simp [results, Tryz.results71, go_sem]) rfl
    ⟨rfl, _, (HM.out.set 423 (.bool true) (by omega) (by omega) (by omega) (HM.out.lm.setEnd true) rfl rfl).alloc _, ((Kp.refl mb w L).set 423 _ (by omega) (by omega)).alloc _⟩

set_option maxHeartbeats 1600000 in
theorem cback_some (s inp : ByteArray) (n mb bs bc cs base : Nat) (m : Im.St) (en : Bool) (L : Nat → Value) (w : World) (hM : Mc s inp n mb bs bc cs base m en L w) (hc : 0 < m.cal.length) (hc2 : m.cal.length ≤ 8) (hs2 : s.size ≤ 200)
    (ha : (m.cal[m.cal.length - 1]?.getD (0, 0)).2 ∈ allD s n) (hs : (m.cal[m.cal.length - 1]?.getD (0, 0)).2 < s.size) (hz : Im.sz (Im.bt s (m.cal[m.cal.length - 1]?.getD (0, 0)).2) = 2) :
    Calls Tryz.prog 71 #[.pointer (some ⟨mb, 0, none⟩)] w fun e w' => CBack s inp n mb bs bc cs base m en L w w' e := by
  obtain ⟨g, cap, hv, hgb, hnc, hcm, hgl, hcells⟩ := owns_some hM.rc hc
  have c6 := hM.bx.cell 6 (by omega)
  rw [hv] at c6
  have z6 := hM.bx.frz 6
  obtain ⟨g0, g1⟩ := prs_get m.cal (m.cal.length - 1) (by omega)
  have x0 := hcells _ _ g0
  have x1 := hcells _ _ g1
  have hgne : g ≠ mb := by have := hM.mf.hbb; omega
  have hlt := hM.bx.lt
  have HM1 : Hid (Mc s inp n mb bs bc cs base { m with cal := m.cal.take (m.cal.length - 1) } en (updV L 6 (.slice (some ⟨g, 0, none⟩) (m.cal.length - 1) cap)) (w.setCell ⟨mb, 6, none⟩ (.slice (some ⟨g, 0, none⟩) (m.cal.length - 1) cap))) := by
    have hrc := hM.rc
    rw [hv] at hrc
    refine hM.setC _ _ ?_
    rw [prs_take, List.length_take, Nat.min_eq_left (by omega)]
    exact owns_take hrc (by omega)
  have hba := hM.mf.hba
  have HV : Hid (L 6 = .slice (some ⟨g, 0, none⟩) m.cal.length cap) := hv
  obtain ⟨pr, HPR⟩ : ∃ pr, Hid (m.cal[m.cal.length - 1]?.getD (0, 0) = pr) := ⟨_, rfl⟩
  rw [HPR.out] at x0 x1 ha hs hz
  obtain ⟨q, HQ⟩ : ∃ q, Hid (m.cal.length = q + 1) := ⟨m.cal.length - 1, by show _ = _; omega⟩
  have hql : q < 8 := by have := HQ.out; omega
  rw [HQ.out, Nat.add_sub_cancel] at x0 x1 HM1
  rw [HQ.out] at c6 hnc HV
  have hq0 : (((q + 1 : Nat) : Int) == 0) = false := by rw [beq_eq_false_iff_ne]; omega
  unfold maxLen at hcm
  clear hM hv hcells g0 g1 hc hc2
  go_enter Tryz.func71, Tryz.ntmps71
  go_wp2_with fail
  refine (cbehind_any s inp n mb bs bc cs base _ en _ pr.1 pr.2 _ ((HM1.out.alloc _).alloc _) ha hs hs2).mono ?_
  rintro e w2 ⟨rfl, hb2⟩
  rw [hz]
  have hh : w2.heap[w.heap.size]? = some (.cells #[.int .i64 0, .int .i64 0] 34 (0, 0)) := by
    rw [hb2.block w.heap.size (by simp; omega), Below.heap_alloc _ _ _ (by simp)]
    have := heap_new (w.setCell ⟨mb, 6, none⟩ (.slice (some ⟨g, 0, none⟩) q cap)) (.cells #[.int .i64 0, .int .i64 0] 34)
    simpa using this
  have d0 : w2.cell? ⟨w.heap.size, 0, none⟩ = some (.int .i64 0) := cell_of_heap hh rfl
  have d1 : w2.cell? ⟨w.heap.size, 1, none⟩ = some (.int .i64 0) := cell_of_heap hh rfl
  have y0 : w2.frozen? ⟨w.heap.size, 0, none⟩ = false := free_of_heap hh
  have y1 : w2.frozen? ⟨w.heap.size, 1, none⟩ = false := free_of_heap hh
  have HP : Hid (∀ a b, CBack s inp n mb bs bc cs base m en L w ((w2.setCell ⟨w.heap.size, 0, none⟩ a).setCell ⟨w.heap.size, 1, none⟩ b) (.returned (.agg #[.int .i64 (pr.1 : Nat), .int .i64 ((pr.2 + 2 : Nat) : Int)]))) := by
    intro a b
    have h1 := ((HM1.out.alloc (.cells #[.int .i64 0, .int .i64 0] 34)).alloc (.cells #[.int .i64 (pr.1 : Nat), .int .i64 (pr.2 : Nat)] 34)).below hb2
    have h2 := h1.1.out w.heap.size 0 a hba (row_ne HM1.out.rs (by simp)) (row_ne HM1.out.rc (by simp))
    have h3 := h2.1.out w.heap.size 1 b hba (row_ne HM1.out.rs (by simp)) (row_ne HM1.out.rc (by simp))
    unfold CBack
    rw [HPR.out, HQ.out, Nat.add_sub_cancel]
    exact ⟨rfl, _, h3.1, ((((((Kp.refl mb w L).setC _ (by rw [HV.out]; rfl)).alloc _).alloc _).below hb2).out w.heap.size 0 a (Nat.le_refl _)).out w.heap.size 1 b (Nat.le_refl _)⟩
  clear hb2 hh HM1
  go_wp2
  refine bodyPost_ret (v := .agg #[.int .i64 (pr.1 : Nat), .int .i64 ((pr.2 : Int) + 2)]) (by simp [results, Tryz.results71, go_sem, d0, d1]) rfl ?_
  have := HP.out (.int .i64 (pr.1 : Nat)) (.int .i64 ((pr.2 + 2 : Nat) : Int))
  rw [cast_add2] at this
  exact this
end Go.Proofs.YtbmaiioecnmopaaGreatDoor
