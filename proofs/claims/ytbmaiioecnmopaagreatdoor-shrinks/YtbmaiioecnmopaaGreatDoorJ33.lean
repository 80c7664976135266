/-
  MacR, MacS, MacT, MacU, MacV: THESE TEXTS, JOINED. By the verifier of the loop 'triage'.
-/
import Derived.Test.YtbmaiioecnmopaaGreatDoorJ27
import Derived.Test.YtbmaiioecnmopaaGreatDoorJ15
import Derived.Test.YtbmaiioecnmopaaGreatDoorJ16
import Derived.Test.YtbmaiioecnmopaaGreatDoorJ05
/-
  THE PROGRAM's SIDE (package triage): play: the machine's struct as it is laid. By the verifier of the loop 'triage'.
-/
namespace Go.Proofs.YtbmaiioecnmopaaGreatDoor
open Go.RowKit

theorem zero_m : Tryz.zeroCells124.toList = [.int .i64 0, .int .i64 0, .slice none 0 0, .slice none 0 0, .string ⟨#[]⟩, .slice none 0 0, .slice none 0 0] ++ (List.replicate 16 (.int .u8 0) ++ List.replicate 401 (.bool false)) := by kernel_rfl
/-- the machine's struct as play lays it. -/
structure Bxl (s inp : ByteArray) (n bs bc cs : Nat) (box : List Value) : Prop where
  len : box.length = 424
  one : ∀ v ∈ box, v.oneCell' = true
  g0 : box[0]? = some (.int .i64 0)
  g1 : box[1]? = some (.int .i64 0)
  g2 : box[2]? = some (.slice (some ⟨bs, 0, none⟩) (n + 1) cs)
  g3 : box[3]? = some (.slice (some ⟨bc, 0, none⟩) s.size s.size)
  g4 : box[4]? = some (.string inp)
  g5 : box[5]? = some (.slice none 0 0)
  g6 : box[6]? = some (.slice none 0 0)
  gc : ∀ i, i < 16 → box[7 + i]? = some (.int .u8 0)
  ge : ∀ i, i < 401 → box[23 + i]? = some (.bool false)
theorem set_box (a0 a1 a2 a3 a4 a5 a6 u v t : Value) (B : List Value) : ((([a0, a1, a2, a3, a4, a5, a6] ++ B).set 2 u).set 3 v).set 4 t = [a0, a1, u, v, t, a5, a6] ++ B := rfl
theorem bxl_of (s inp : ByteArray) (n bs bc cs : Nat) (B C : List Value) (hB : B.length = 16) (hB1 : ∀ i, i < 16 → B[i]? = some (.int .u8 0)) (hC : C.length = 401) (hC1 : ∀ i, i < 401 → C[i]? = some (.bool false)) :
    Bxl s inp n bs bc cs ([.int .i64 0, .int .i64 0, .slice (some ⟨bs, 0, none⟩) (n + 1) cs, .slice (some ⟨bc, 0, none⟩) s.size s.size, .string inp, .slice none 0 0, .slice none 0 0] ++ (B ++ C)) where
  len := by simp [hB, hC]
  one := by
    intro v hv
    simp only [List.mem_append, List.mem_cons, List.not_mem_nil, or_false] at hv
    rcases hv with (rfl | rfl | rfl | rfl | rfl | rfl | rfl) | hv | hv
    iterate 7 rfl
    · obtain ⟨i, hi, rfl⟩ := List.getElem_of_mem hv
      have := hB1 i (by omega)
      rw [List.getElem?_eq_getElem hi] at this
      injection this with h
      rw [h]; rfl
    · obtain ⟨i, hi, rfl⟩ := List.getElem_of_mem hv
      have := hC1 i (by omega)
      rw [List.getElem?_eq_getElem hi] at this
      injection this with h
      rw [h]; rfl
  g0 := rfl
  g1 := rfl
  g2 := rfl
  g3 := rfl
  g4 := rfl
  g5 := rfl
  g6 := rfl
  gc i hi := by
    rw [List.getElem?_append_right (by simp), List.getElem?_append_left (by simp; omega)]
    simp only [List.length_cons, List.length_nil]
    rw [show 7 + i - (0 + 1 + 1 + 1 + 1 + 1 + 1 + 1) = i by omega]
    exact hB1 i hi
  ge i hi := by
    rw [List.getElem?_append_right (by simp; omega), List.getElem?_append_right (by simp; omega)]
    simp only [List.length_cons, List.length_nil]
    rw [show 23 + i - (0 + 1 + 1 + 1 + 1 + 1 + 1 + 1) - B.length = i by omega]
    exact hC1 i hi
theorem box_ex (s inp : ByteArray) (n bs bc cs : Nat) : ∃ box : List Value, ((Tryz.zeroCells124.toList.set 2 (.slice (some ⟨bs, 0, none⟩) (n + 1) cs)).set 3 (.slice (some ⟨bc, 0, none⟩) s.size s.size)).set 4 (.string inp) = box ∧ Bxl s inp n bs bc cs box := by
  rw [zero_m]
  have h1 : (List.replicate 16 (Value.int .u8 0)).length = 16 := List.length_replicate
  have h2 : (List.replicate 401 (Value.bool false)).length = 401 := List.length_replicate
  have h3 : ∀ i, i < 16 → (List.replicate 16 (Value.int .u8 0))[i]? = some (.int .u8 0) := fun i hi => by rw [List.getElem?_replicate, if_pos hi]
  have h4 : ∀ i, i < 401 → (List.replicate 401 (Value.bool false))[i]? = some (.bool false) := fun i hi => by rw [List.getElem?_replicate, if_pos hi]
  generalize List.replicate 16 (Value.int .u8 0) = B at *
  generalize List.replicate 401 (Value.bool false) = C at *
  rw [set_box]
  exact ⟨_, rfl, bxl_of s inp n bs bc cs B C h1 h3 h2 h4⟩
theorem sc_frame (b : Nat) : ∀ (vs : List Value) (o : Nat) (w : World), (w.setCells b o vs).heap.size = w.heap.size ∧ (w.setCells b o vs).os = w.os ∧ (w.setCells b o vs).tape = w.tape ∧ (w.setCells b o vs).output = w.output ∧ ∀ k, k ≠ b → (w.setCells b o vs).heap[k]? = w.heap[k]?
  | [], _, _ => ⟨rfl, rfl, rfl, rfl, fun _ _ => rfl⟩
  | v :: r, o, w => by
    obtain ⟨h1, h2, h3, h4, h5⟩ := sc_frame b r (o + 1) (w.setCell ⟨b, o, none⟩ v)
    rw [World.setCells]
    exact ⟨by rw [h1]; simp, h2, h3, h4, fun k hk => (h5 k hk).trans (Below.heap_setCell _ _ _ _ hk)⟩
/-- the world in which the machine's struct is laid. -/
structure Laid0 (s inp : ByteArray) (n bs bc cs : Nat) (box : List Value) (W w3 : World) : Prop where
  bl : Bxl s inp n bs bc cs box
  size : w3.heap.size = W.heap.size + 1
  os : w3.os = W.os
  tape : w3.tape = W.tape
  output : w3.output = W.output
  block : ∀ k, k < W.heap.size → w3.heap[k]? = W.heap[k]?
  cell : ∀ o, o < 424 → w3.cell? ⟨W.heap.size, o, none⟩ = some (box[o]?.getD (.bool false))
  frz : ∀ o, w3.frozen? ⟨W.heap.size, o, none⟩ = false
theorem lay_ex (s inp : ByteArray) (n bs bc cs : Nat) (W : World) : ∃ box w3, ((Tryz.zeroCells124.toList.set 2 (.slice (some ⟨bs, 0, none⟩) (n + 1) cs)).set 3 (.slice (some ⟨bc, 0, none⟩) s.size s.size)).set 4 (.string inp) = box ∧
    (storeCells ⟨W.heap.size, 0, none⟩ box).run Tryz.prog (W.alloc (.cells Tryz.zeroCells124 124)) = .ok () w3 ∧ Laid0 s inp n bs bc cs box W w3 := by
  obtain ⟨box, hbox, hB⟩ := box_ex s inp n bs bc cs
  have hz : Tryz.zeroCells124.toList.length = 424 := by
    have := congrArg List.length hbox
    rw [hB.len] at this
    rw [← this]
    simp
  generalize Tryz.zeroCells124 = Z at *
  have h1 : ∀ j, j < 424 → ((W.alloc (.cells Z 124)).cell? ⟨W.heap.size, j, none⟩).isSome = true := fun j hj => by
    rw [cell_of_heap (v := Z[j]'(by simpa using (by omega : j < Z.toList.length))) (heap_new W _) (by simp)]; rfl
  have h2 : ∀ j, (W.alloc (.cells Z 124)).frozen? ⟨W.heap.size, j, none⟩ = false := fun j => free_of_heap (heap_new W _)
  have hr := run_storeCells_cells (P := Tryz.prog) W.heap.size 0 box 0 (W.alloc (.cells Z 124)) (fun j hj => by rw [hB.len] at hj; simpa using h1 j hj) (fun j _ => h2 _) hB.one
  obtain ⟨f1, f2, f3, f4, f5⟩ := sc_frame W.heap.size box (0 + 0) (W.alloc (.cells Z 124))
  refine ⟨box, _, hbox, hr, hB, by rw [f1]; simp, f2, f3, f4, fun k hk => (f5 k (by omega)).trans (Below.heap_alloc _ _ _ hk), fun o ho => ?_, fun o => ?_⟩
  · have hlo : o < box.length := by rw [hB.len]; exact ho
    have := World.cell?_setCells_in W.heap.size box 0 (W.alloc (.cells Z 124)) (fun j hj => by rw [hB.len] at hj; simpa using h1 j hj) o hlo
    rw [Nat.zero_add] at this
    rw [this, List.getElem?_eq_getElem hlo]; rfl
  · rw [World.frozen?_setCells]; exact h2 o
end Go.Proofs.YtbmaiioecnmopaaGreatDoor

/-
  THE PROGRAM's SIDE (package triage): play: where its loop stands. By the verifier of the loop 'triage'.
-/
namespace Go.Proofs.YtbmaiioecnmopaaGreatDoor
open Go.RowKit

theorem below_of_kx {base mb : Nat} {w w' : World} (h : Kx base mb w w') (hb : mb ≤ base) : Below mb w w' := ⟨h.os, h.tape, h.output, h.size, fun k hk => h.block k (by omega) (by omega)⟩
theorem hset {w : World} {b o : Nat} {c : Array Value} {t : TypeId} {v : Value} (h : w.heap[b]? = some (.cells c t (0, 0))) : (w.setCell ⟨b, o, none⟩ v).heap[b]? = some (.cells (c.setIfInBounds o v) t (0, 0)) := by
  simp [World.setCell, Array.getElem?_modify, h]

/-- a cell of a block beneath, that the machine does not look at, is set. -/
theorem Mc.low {s inp : ByteArray} {n mb bs bc cs base : Nat} {m : Im.St} {en : Bool} {L : Nat → Value} {w : World} (h : Mc s inp n mb bs bc cs base m en L w) (b o : Nat) (v : Value) (hb : b < base) (h1 : b ≠ mb) (h2 : b ≠ bs) (h3 : b ≠ bc) : Mc s inp n mb bs bc cs base m en L (w.setCell ⟨b, o, none⟩ v) := by
  have hbl : ∀ k, k ≠ b → (w.setCell ⟨b, o, none⟩ v).heap[k]? = w.heap[k]? := fun k hk => Below.heap_setCell _ _ _ _ hk
  have hs := hbl bs (by omega)
  have hc := hbl bc (by omega)
  exact ⟨⟨fun o' ho' => (World.cell?_of_block (a := ⟨mb, o', none⟩) (hbl mb (by omega))).trans (h.bx.cell o' ho'), fun o' => (World.frozen?_of_block (a := ⟨mb, o', none⟩) (hbl mb (by omega))).trans (h.bx.frz o'), by simpa using h.bx.lt⟩, h.lm, ownsRow_setCell_below h.rs (by exact hb) _, ownsRow_setCell_below h.rc (by exact hb) _,
    { h.mf with st := fun j hj => (World.cell?_of_block (a := ⟨bs, _, none⟩) hs).trans (h.mf.st j hj), c0 := fun i hi => (World.cell?_of_block (a := ⟨bc, _, none⟩) hc).trans (h.mf.c0 i hi), c1 := fun i hi => (World.cell?_of_block (a := ⟨bc, _, none⟩) hc).trans (h.mf.c1 i hi), c2 := fun i hi => (World.cell?_of_block (a := ⟨bc, _, none⟩) hc).trans (h.mf.c2 i hi), c3 := fun i hi => (World.cell?_of_block (a := ⟨bc, _, none⟩) hc).trans (h.mf.c3 i hi), hba := by simpa using h.mf.hba }⟩

/-- the report, as it lies in play. -/
def rblk (fa pa kd en : Nat) (v4 v5 : Value) (k : Nat) (tp : Int) : Obj := .cells #[.int .i64 (fa : Nat), .int .i64 (pa : Nat), .int .i64 (kd : Nat), .int .i64 (en : Nat), v4, v5, .int .i64 (k : Nat), .int .i64 tp] 39 (0, 0)
theorem rb_cells {w : World} {b fa pa kd en k : Nat} {v4 v5 : Value} {tp : Int} (h : w.heap[b]? = some (rblk fa pa kd en v4 v5 k tp)) :
    (w.cell? ⟨b, 0, none⟩ = some (.int .i64 (fa : Nat)) ∧ w.cell? ⟨b, 1, none⟩ = some (.int .i64 (pa : Nat)) ∧ w.cell? ⟨b, 2, none⟩ = some (.int .i64 (kd : Nat)) ∧ w.cell? ⟨b, 3, none⟩ = some (.int .i64 (en : Nat)) ∧ w.cell? ⟨b, 4, none⟩ = some v4 ∧ w.cell? ⟨b, 5, none⟩ = some v5 ∧ w.cell? ⟨b, 6, none⟩ = some (.int .i64 (k : Nat)) ∧ w.cell? ⟨b, 7, none⟩ = some (.int .i64 tp)) ∧ (∀ o, w.frozen? ⟨b, o, none⟩ = false) ∧ b < w.heap.size :=
  ⟨⟨cell_of_heap h rfl, cell_of_heap h rfl, cell_of_heap h rfl, cell_of_heap h rfl, cell_of_heap h rfl, cell_of_heap h rfl, cell_of_heap h rfl, cell_of_heap h rfl⟩, fun _ => free_of_heap h, (Array.getElem?_eq_some_iff.1 h).1⟩

/-- the run is over. -/
structure Over (r : Rn) (mb rb : Nat) (v4 : Value) (w : World) : Prop where
  en : r.1 = 0 ∨ r.1 = 1
  blk : w.heap[rb]? = some (rblk (rfa r) (rpa r) r.2.1 r.1 v4 (.slice none 0 0) r.2.2.2 (rtop r))
  row : w.ownsRow (rb + 1) 34 2 v4 (rsts r).length (prs (rsts r))
  edg : ∀ i, i < 400 → w.cell? ⟨mb, 23 + i, none⟩ = some (.bool (r.2.2.1.edg i))
/-- where play's loop stands. -/
def PlC (s inp : ByteArray) (n mb bs bc cs rb fuel : Nat) (w : World) : Prop :=
  (∃ m k L, k ≤ fuel ∧ Im.Good s inp n m ∧ Mc s inp n mb bs bc cs (rb + 1) m false L w ∧ Im.runP s inp fuel (Im.st0 s) 0 = Im.runP s inp (fuel - k) m k ∧ w.heap[rb]? = some (rblk 0 0 0 2 (.slice none 0 0) (.slice none 0 0) k (-1))) ∨
  (∃ v4, Over (Im.runP s inp fuel (Im.st0 s) 0) mb rb v4 w)
def msc (rb fuel : Nat) (w : World) : Nat := if intOf ((w.cell? ⟨rb, 3, none⟩).getD (.bool false)) = 2 then fuel + 1 - (intOf ((w.cell? ⟨rb, 6, none⟩).getD (.bool false))).toNat else 0
theorem msc_of {w : World} {b fa pa kd en k fuel : Nat} {v4 v5 : Value} {tp : Int} (h : w.heap[b]? = some (rblk fa pa kd en v4 v5 k tp)) : msc b fuel w = if en = 2 then fuel + 1 - k else 0 := by
  obtain ⟨⟨_, _, _, h3, _, _, h6, _⟩, _⟩ := rb_cells h
  unfold msc
  rw [h3, h6]
  show (if (en : Int) = 2 then fuel + 1 - (k : Int).toNat else 0) = _
  by_cases he : en = 2
  · rw [if_pos (by omega : (en : Int) = 2), if_pos he]; omega
  · rw [if_neg (by omega : ¬ (en : Int) = 2), if_neg he]

theorem plc_go {s inp : ByteArray} {n mb bs bc cs rb fuel k : Nat} {m : Im.St} {L : Nat → Value} {w2 : World} (ho : Im.Okay s n) (hg : Im.Good s inp n m) (hk : k < fuel) (hr : Im.runP s inp fuel (Im.st0 s) 0 = Im.runP s inp (fuel - k) m k) (h0 : (Im.stepP s inp m).2 = 0) (hM : Mc s inp n mb bs bc cs (rb + 1) (Im.stepP s inp m).1 false L w2) (hb : w2.heap[rb]? = some (rblk 0 0 0 2 (.slice none 0 0) (.slice none 0 0) k (-1))) (h1 : rb ≠ mb) (h2 : rb ≠ bs) (h3 : rb ≠ bc) :
    PlC s inp n mb bs bc cs rb fuel (w2.setCell ⟨rb, 6, none⟩ (.int .i64 ((k : Int) + 1))) ∧ msc rb fuel (w2.setCell ⟨rb, 6, none⟩ (.int .i64 ((k : Int) + 1))) < fuel + 1 - k := by
  rw [runP_step s inp fuel k m hk, if_pos h0] at hr
  have hb2 : (w2.setCell ⟨rb, 6, none⟩ (.int .i64 ((k : Int) + 1))).heap[rb]? = some (rblk 0 0 0 2 (.slice none 0 0) (.slice none 0 0) (k + 1) (-1)) := hset hb
  refine ⟨Or.inl ⟨_, k + 1, L, by omega, Im.good_step s inp n m ho hg h0, hM.low rb 6 _ (by omega) h1 h2 h3, hr, hb2⟩, ?_⟩
  rw [msc_of hb2]
  simp
  omega
theorem plc_done {s inp : ByteArray} {n mb bs bc cs rb fuel k : Nat} {m : Im.St} {L : Nat → Value} {w2 : World} (hk : k < fuel) (hr : Im.runP s inp fuel (Im.st0 s) 0 = Im.runP s inp (fuel - k) m k) (h10 : (Im.stepP s inp m).2 = 10) (hM : Mc s inp n mb bs bc cs (rb + 1) m true L w2) (hb : w2.heap[rb]? = some (rblk 0 0 0 2 (.slice none 0 0) (.slice none 0 0) k (-1))) (h1 : rb ≠ mb) (q : Nat) :
    PlC s inp n mb bs bc cs rb fuel ((((w2.setCell ⟨rb, 6, none⟩ (.int .i64 ((k : Int) + 1))).setCell ⟨rb, 3, none⟩ (.int .i64 0)).setCell ⟨rb, 7, none⟩ (.int .i64 (topI m.stk))).drewN q) ∧ msc rb fuel ((((w2.setCell ⟨rb, 6, none⟩ (.int .i64 ((k : Int) + 1))).setCell ⟨rb, 3, none⟩ (.int .i64 0)).setCell ⟨rb, 7, none⟩ (.int .i64 (topI m.stk))).drewN q) < fuel + 1 - k := by
  have hs := Im.step_stays s inp m (by rw [h10]; decide)
  rw [runP_step s inp fuel k m hk, if_neg (by rw [h10]; decide), if_pos h10, hs] at hr
  have hb2 : ((((w2.setCell ⟨rb, 6, none⟩ (.int .i64 ((k : Int) + 1))).setCell ⟨rb, 3, none⟩ (.int .i64 0)).setCell ⟨rb, 7, none⟩ (.int .i64 (topI m.stk))).drewN q).heap[rb]? = some (rblk 0 0 0 0 (.slice none 0 0) (.slice none 0 0) (k + 1) (topI m.stk)) := hset (hset (hset hb))
  refine ⟨Or.inr ⟨.slice none 0 0, ?_⟩, ?_⟩
  · rw [hr]
    exact ⟨Or.inl rfl, hb2, World.ownsRow_nil _ _ _ _, fun i hi => by
      have hbl : ((((w2.setCell ⟨rb, 6, none⟩ (.int .i64 ((k : Int) + 1))).setCell ⟨rb, 3, none⟩ (.int .i64 0)).setCell ⟨rb, 7, none⟩ (.int .i64 (topI m.stk))).drewN q).heap[mb]? = w2.heap[mb]? := (Below.heap_setCell _ _ _ _ (Ne.symm h1)).trans ((Below.heap_setCell _ _ _ _ (Ne.symm h1)).trans (Below.heap_setCell _ _ _ _ (Ne.symm h1)))
      rw [World.cell?_of_block (a := ⟨mb, 23 + i, none⟩) hbl, hM.bx.cell (23 + i) (by omega), hM.lm.le i hi]⟩
  · rw [msc_of hb2]
    simp
    omega
/-- the report behind blame. -/
def wbl (w2 : World) (rb k f a : Nat) (kd : Nat) : World := ((((((w2.setCell ⟨rb, 6, none⟩ (.int .i64 ((k : Int) + 1))).setCell ⟨rb, 3, none⟩ (.int .i64 1)).setCell ⟨rb, 0, none⟩ (.int .i64 (f : Nat))).setCell ⟨rb, 1, none⟩ (.int .i64 (a : Nat))).setCell ⟨rb, 2, none⟩ (.int .i64 (kd : Nat)))).alloc (.cells #[.int .i64 (f : Nat), .int .i64 (a : Nat)] 34)
theorem wbl_blk {w2 : World} {rb k f a kd : Nat} (hb : w2.heap[rb]? = some (rblk 0 0 0 2 (.slice none 0 0) (.slice none 0 0) k (-1))) : (wbl w2 rb k f a kd).heap[rb]? = some (rblk f a kd 1 (.slice none 0 0) (.slice none 0 0) (k + 1) (-1)) := by
  unfold wbl
  rw [Below.heap_alloc _ _ _ (by simpa using (Array.getElem?_eq_some_iff.1 hb).1)]
  exact hset (hset (hset (hset (hset hb))))
theorem wbl_mc {s inp : ByteArray} {n mb bs bc cs rb k f a kd : Nat} {m : Im.St} {L : Nat → Value} {w2 : World} (hM : Mc s inp n mb bs bc cs (rb + 1) m false L w2) (h1 : rb ≠ mb) (h2 : rb ≠ bs) (h3 : rb ≠ bc) : Mc s inp n mb bs bc cs (rb + 1) m false L (wbl w2 rb k f a kd) :=
  (((((hM.low rb 6 _ (by omega) h1 h2 h3).low rb 3 _ (by omega) h1 h2 h3).low rb 0 _ (by omega) h1 h2 h3).low rb 1 _ (by omega) h1 h2 h3).low rb 2 _ (by omega) h1 h2 h3).alloc _
theorem wbl_below {B : Nat} {w w2 : World} {rb k f a kd : Nat} (h : Below B w w2) (hB : B ≤ rb) (hB2 : B ≤ w2.heap.size) : Below B w (wbl w2 rb k f a kd) :=
  (((((h.setCell (p := ⟨rb, 6, none⟩) hB _).setCell (p := ⟨rb, 3, none⟩) hB _).setCell (p := ⟨rb, 0, none⟩) hB _).setCell (p := ⟨rb, 1, none⟩) hB _).setCell (p := ⟨rb, 2, none⟩) hB _).alloc (by simpa using hB2) _
theorem plc_fault {s inp : ByteArray} {n mb bs bc cs rb fuel k : Nat} {m m' : Im.St} {L : Nat → Value} {w2 w3 : World} {v4 : Value} (hk : k < fuel) (hr : Im.runP s inp fuel (Im.st0 s) 0 = Im.runP s inp (fuel - k) m k) (hn0 : (Im.stepP s inp m).2 ≠ 0) (hn10 : (Im.stepP s inp m).2 ≠ 10) (hM : Mc s inp n mb bs bc cs (rb + 1) m' false L w2) (e4 : m'.edg = m.edg) (hb : w2.heap[rb]? = some (rblk 0 0 0 2 (.slice none 0 0) (.slice none 0 0) k (-1))) (h1 : rb ≠ mb) (h2 : rb ≠ bs) (h3 : rb ≠ bc)
    (ho : w3.ownsRow (wbl w2 rb k m.fn m.at_ (Im.stepP s inp m).2).heap.size 34 2 v4 m.cal.length (prs m.cal.reverse)) (hB : Below (wbl w2 rb k m.fn m.at_ (Im.stepP s inp m).2).heap.size (wbl w2 rb k m.fn m.at_ (Im.stepP s inp m).2) w3) :
    PlC s inp n mb bs bc cs rb fuel (w3.setCell ⟨rb, 4, none⟩ v4) ∧ msc rb fuel (w3.setCell ⟨rb, 4, none⟩ v4) < fuel + 1 - k := by
  have hs := Im.step_stays s inp m hn0
  rw [runP_step s inp fuel k m hk, if_neg hn0, if_neg hn10, hs] at hr
  have hM2 := wbl_mc (k := k) (f := m.fn) (a := m.at_) (kd := (Im.stepP s inp m).2) hM h1 h2 h3
  have hrl : rb < w2.heap.size := (Array.getElem?_eq_some_iff.1 hb).1
  have hwl : (wbl w2 rb k m.fn m.at_ (Im.stepP s inp m).2).heap.size = w2.heap.size + 1 := by simp [wbl]
  have hb2 : (w3.setCell ⟨rb, 4, none⟩ v4).heap[rb]? = some (rblk m.fn m.at_ (Im.stepP s inp m).2 1 v4 (.slice none 0 0) (k + 1) (-1)) := hset ((hB.block rb (by omega)).trans (wbl_blk hb))
  refine ⟨Or.inr ⟨v4, ?_⟩, ?_⟩
  · rw [hr]
    refine ⟨Or.inr rfl, hb2, ?_, fun i hi => ?_⟩
    · show World.ownsRow _ _ _ _ _ m.cal.reverse.length (prs m.cal.reverse)
      rw [List.length_reverse]
      exact owns_setb (owns_mono ho (by omega)) (by omega)
    · have hbl : (w3.setCell ⟨rb, 4, none⟩ v4).heap[mb]? = (wbl w2 rb k m.fn m.at_ (Im.stepP s inp m).2).heap[mb]? := (Below.heap_setCell _ _ _ _ (Ne.symm h1)).trans (hB.block mb (by have := hM.bx.lt; omega))
      rw [World.cell?_of_block (a := ⟨mb, 23 + i, none⟩) hbl, hM2.bx.cell (23 + i) (by omega), hM2.lm.le i hi, e4]
  · rw [msc_of hb2]
    simp
    omega
end Go.Proofs.YtbmaiioecnmopaaGreatDoor

/-
  THE PROGRAM's SIDE (package triage): play. By the verifier of the loop 'triage'.
-/
namespace Go.Proofs.YtbmaiioecnmopaaGreatDoor
open Go.RowKit

theorem mf_of {s : ByteArray} {n bp bs bc cs : Nat} {w : World} (ho : Im.Okay s n) (hM : Mem s n bp bs bc cs (allD s n) w) (hcs : n + 1 ≤ cs) (hcm : cs ≤ maxLen) (mb base : Nat) (W : World) (h1 : mb < base) (h2 : w.heap.size ≤ mb) (hB : Below w.heap.size w W) (hbw : base ≤ W.heap.size) : Mf s n mb bs bc cs base W := by
  have hin : ∀ i, i ∈ allD s n → i < s.size := fun i hi => by
    obtain ⟨f, hf, hm⟩ := (allD_mem s n i).1 hi
    have h3 := Im.fn_mem s f i hm
    have h4 := ho.st f hf
    omega
  have hs := hB.block bs hM.lts
  have hc := hB.block bc hM.ltc
  have hsl := hM.lts
  have hcl := hM.ltc
  exact ⟨fun j hj => (World.cell?_of_block (a := ⟨bs, _, none⟩) hs).trans (hM.st j hj),
    fun i hi => (World.cell?_of_block (a := ⟨bc, _, none⟩) hc).trans (by rw [hM.c0 i (hin i hi), if_pos hi]; rfl),
    fun i hi => (World.cell?_of_block (a := ⟨bc, _, none⟩) hc).trans (by rw [hM.c1 i (hin i hi), if_pos hi]),
    fun i hi => (World.cell?_of_block (a := ⟨bc, _, none⟩) hc).trans (by rw [hM.c2 i (hin i hi), if_pos hi]),
    fun i hi => (World.cell?_of_block (a := ⟨bc, _, none⟩) hc).trans (by rw [hM.c3 i (hin i hi), if_pos hi]),
    hcs, hcm, h1, by omega, by omega, by omega, by omega, hbw⟩

theorem mc_start {s inp : ByteArray} {n bs bc cs : Nat} {box : List Value} {W w3 : World} (hL : Laid0 s inp n bs bc cs box W w3) (o : Obj) (hF : Mf s n W.heap.size bs bc cs (W.heap.size + 1 + 1) ((w3.setCell ⟨W.heap.size, 1, none⟩ (.int .i64 (Im.st s 0 : Nat))).alloc o)) :
    Mc s inp n W.heap.size bs bc cs (W.heap.size + 1 + 1) (Im.st0 s) false (updV (fun o => box[o]?.getD (.bool false)) 1 (.int .i64 (Im.st s 0 : Nat))) ((w3.setCell ⟨W.heap.size, 1, none⟩ (.int .i64 (Im.st s 0 : Nat))).alloc o) := by
  have hB : Bx W.heap.size 424 (fun o => box[o]?.getD (.bool false)) w3 := ⟨hL.cell, hL.frz, by have := hL.size; omega⟩
  refine ⟨(hB.set 1 _ (by omega)).alloc o, ?_, ?_, ?_, hF⟩
  · constructor
    case l0 => rw [updV_ne _ _ _ _ (by omega)]; show box[0]?.getD _ = _; rw [hL.bl.g0]; rfl
    case l1 => rw [updV_at]; rfl
    case l2 => rw [updV_ne _ _ _ _ (by omega)]; show box[2]?.getD _ = _; rw [hL.bl.g2]; rfl
    case l3 => rw [updV_ne _ _ _ _ (by omega)]; show box[3]?.getD _ = _; rw [hL.bl.g3]; rfl
    case l4 => exact ⟨inp, by rw [updV_ne _ _ _ _ (by omega)]; show box[4]?.getD _ = _; rw [hL.bl.g4]; rfl, ⟨by show inp.size = inp.size - 0; omega, fun i _ => by show Im.bt inp i = Im.bt inp (0 + i); rw [Nat.zero_add]⟩⟩
    case lc => intro i hi; rw [updV_ne _ _ _ _ (by omega)]; show box[7 + i]?.getD _ = _; rw [hL.bl.gc i hi]; rfl
    case le => intro i hi; rw [updV_ne _ _ _ _ (by omega)]; show box[23 + i]?.getD _ = _; rw [hL.bl.ge i (by omega)]; rfl
    case l423 => rw [updV_ne _ _ _ _ (by omega)]; show box[23 + 400]?.getD _ = _; rw [hL.bl.ge 400 (by omega)]; rfl
  · rw [updV_ne _ _ _ _ (by omega)]; show World.ownsRow _ _ _ _ (box[5]?.getD _) _ _; rw [hL.bl.g5]; exact World.ownsRow_nil _ _ _ _
  · rw [updV_ne _ _ _ _ (by omega)]; show World.ownsRow _ _ _ _ (box[6]?.getD _) _ _; rw [hL.bl.g6]; exact World.ownsRow_nil _ _ _ _

/-- what play answers. -/
def CRep (r : Rn) (w w' : World) (e : Ending) : Prop :=
  ∃ v4 v5, e = .returned (.agg #[.int .i64 (rfa r : Nat), .int .i64 (rpa r : Nat), .int .i64 (r.2.1 : Nat), .int .i64 (r.1 : Nat), v4, v5, .int .i64 (r.2.2.2 : Nat), .int .i64 (rtop r)]) ∧
    w'.ownsRow w.heap.size 34 2 v4 (rsts r).length (prs (rsts r)) ∧
    w'.ownsRow w.heap.size 3 1 v5 (Im.el r.2.2.1.edg).length (ints (Im.el r.2.2.1.edg)) ∧ Below w.heap.size w w'
end Go.Proofs.YtbmaiioecnmopaaGreatDoor

/-
  THE PROGRAM's SIDE (package triage): play. By the verifier of the loop 'triage'.
-/
namespace Go.Proofs.YtbmaiioecnmopaaGreatDoor
open Go.RowKit

theorem below_drewN {B : Nat} {w w' : World} (q : Nat) (h : Below B w w') : Below B w (w'.drewN q) := ⟨h.os, h.tape, h.output, h.size, h.block⟩
set_option maxHeartbeats 6400000 in
set_option maxRecDepth 100000 in
theorem cplay_any (s inp : ByteArray) (n bp bs bc cs fuel : Nat) (w : World) (ho : Im.Okay s n) (hi : inp.size ≤ 24) (hf : fuel ≤ 2000) (hM : Mem s n bp bs bc cs (allD s n) w) (hcs : n + 1 ≤ cs) (hcm : cs ≤ maxLen) :
    Calls Tryz.prog 26 #[.agg #[.slice (some ⟨bs, 0, none⟩) (n + 1) cs, .slice (some ⟨bc, 0, none⟩) s.size s.size], .string inp, .int .i64 fuel] w fun e w' => CRep (Im.runP s inp fuel (Im.st0 s) 0) w w' e := by
  have hst := hM.st 0 (by omega)
  have hs := hM.lts
  have hsc := hM.ltc
  obtain ⟨box, w3, hbox, hrun, hL⟩ := lay_ex s inp n bs bc cs ((w.alloc (.cells #[.slice (some ⟨bs, 0, none⟩) (n + 1) cs, .slice (some ⟨bc, 0, none⟩) s.size s.size] 64)).alloc (.cells #[.int .i64 0, .int .i64 0, .int .i64 0, .int .i64 0, .slice none 0 0, .slice none 0 0, .int .i64 0, .int .i64 0] 39))
  have hsz : ((w.alloc (.cells #[.slice (some ⟨bs, 0, none⟩) (n + 1) cs, .slice (some ⟨bc, 0, none⟩) s.size s.size] 64)).alloc (.cells #[.int .i64 0, .int .i64 0, .int .i64 0, .int .i64 0, .slice none 0 0, .slice none 0 0, .int .i64 0, .int .i64 0] 39)).heap.size = w.heap.size + 1 + 1 := by simp
  have hB0 : Below w.heap.size w ((w.alloc (.cells #[.slice (some ⟨bs, 0, none⟩) (n + 1) cs, .slice (some ⟨bc, 0, none⟩) s.size s.size] 64)).alloc (.cells #[.int .i64 0, .int .i64 0, .int .i64 0, .int .i64 0, .slice none 0 0, .slice none 0 0, .int .i64 0, .int .i64 0] 39)) := ((Below.refl _ _).alloc (Nat.le_refl _) _).alloc (by simp) _
  have h3s := hL.size
  rw [hsz] at hrun h3s
  have hb3 : ∀ k, k < w.heap.size + 1 + 1 → w3.heap[k]? = ((w.alloc (.cells #[.slice (some ⟨bs, 0, none⟩) (n + 1) cs, .slice (some ⟨bc, 0, none⟩) s.size s.size] 64)).alloc (.cells #[.int .i64 0, .int .i64 0, .int .i64 0, .int .i64 0, .slice none 0 0, .slice none 0 0, .int .i64 0, .int .i64 0] 39)).heap[k]? := fun k hk => hL.block k (by omega)
  have hst3 : w3.cell? ⟨bs, 0, none⟩ = some (.int .i64 (Im.st s 0 : Nat)) := (World.cell?_of_block (a := ⟨bs, 0, none⟩) ((hb3 bs (by omega)).trans (hB0.block bs hs))).trans hst
  have hpb : w3.heap[w.heap.size]? = some (.cells #[.slice (some ⟨bs, 0, none⟩) (n + 1) cs, .slice (some ⟨bc, 0, none⟩) s.size s.size] 64 (0, 0)) := (hb3 w.heap.size (by omega)).trans ((Below.heap_alloc _ _ _ (by simp)).trans (heap_new _ _))
  have hzb : w3.heap[w.heap.size + 1]? = some (.cells #[.int .i64 0, .int .i64 0, .int .i64 0, .int .i64 0, .slice none 0 0, .slice none 0 0, .int .i64 0, .int .i64 0] 39 (0, 0)) := (hb3 (w.heap.size + 1) (by omega)).trans (by have := heap_new (w.alloc (.cells #[.slice (some ⟨bs, 0, none⟩) (n + 1) cs, .slice (some ⟨bc, 0, none⟩) s.size s.size] 64)) (.cells #[.int .i64 0, .int .i64 0, .int .i64 0, .int .i64 0, .slice none 0 0, .slice none 0 0, .int .i64 0, .int .i64 0] 39); simpa using this)
  have hW13 : Below (w.heap.size + 1 + 1) w3 ((w3.setCell ⟨w.heap.size + 1 + 1, 1, none⟩ (.int .i64 (Im.st s 0 : Nat))).alloc (.cells #[.int .i64 0, .int .i64 0, .int .i64 0, .int .i64 2, .slice none 0 0, .slice none 0 0, .int .i64 0, .int .i64 (-1)] 39)) := ((Below.refl _ _).setCell (p := ⟨w.heap.size + 1 + 1, 1, none⟩) (Nat.le_refl _) _).alloc (by simp; omega) _
  have hB3 : Below w.heap.size w w3 := ⟨hL.os, hL.tape, hL.output, by omega, fun k hk => (hb3 k (by omega)).trans (hB0.block k hk)⟩
  have hB1 : Below w.heap.size w ((w3.setCell ⟨w.heap.size + 1 + 1, 1, none⟩ (.int .i64 (Im.st s 0 : Nat))).alloc (.cells #[.int .i64 0, .int .i64 0, .int .i64 0, .int .i64 2, .slice none 0 0, .slice none 0 0, .int .i64 0, .int .i64 (-1)] 39)) := hB3.trans (hW13.mono (by omega))
  have hMf : Mf s n (w.heap.size + 1 + 1) bs bc cs (w.heap.size + 1 + 1 + 1 + 1) ((w3.setCell ⟨w.heap.size + 1 + 1, 1, none⟩ (.int .i64 (Im.st s 0 : Nat))).alloc (.cells #[.int .i64 0, .int .i64 0, .int .i64 0, .int .i64 2, .slice none 0 0, .slice none 0 0, .int .i64 0, .int .i64 (-1)] 39)) := mf_of ho hM hcs hcm _ _ _ (by omega) (by omega) hB1 (by simp; omega)
  have hms := mc_start hL (.cells #[.int .i64 0, .int .i64 0, .int .i64 0, .int .i64 2, .slice none 0 0, .slice none 0 0, .int .i64 0, .int .i64 (-1)] 39)
  rw [hsz] at hms
  have hMc := hms hMf
  clear hms
  have hrb1 : ((w3.setCell ⟨w.heap.size + 1 + 1, 1, none⟩ (.int .i64 (Im.st s 0 : Nat))).alloc (.cells #[.int .i64 0, .int .i64 0, .int .i64 0, .int .i64 2, .slice none 0 0, .slice none 0 0, .int .i64 0, .int .i64 (-1)] 39)).heap[w.heap.size + 1 + 1 + 1]? = some (rblk 0 0 0 2 (.slice none 0 0) (.slice none 0 0) 0 (-1)) := by
    have := heap_new (w3.setCell ⟨w.heap.size + 1 + 1, 1, none⟩ (.int .i64 (Im.st s 0 : Nat))) (.cells #[.int .i64 0, .int .i64 0, .int .i64 0, .int .i64 2, .slice none 0 0, .slice none 0 0, .int .i64 0, .int .i64 (-1)] 39)
    rw [show (w3.setCell ⟨w.heap.size + 1 + 1, 1, none⟩ (.int .i64 (Im.st s 0 : Nat))).heap.size = w.heap.size + 1 + 1 + 1 by simp; omega] at this
    exact this
  have HST : Hid (PlC s inp n (w.heap.size + 1 + 1) bs bc cs (w.heap.size + 1 + 1 + 1) fuel ((w3.setCell ⟨w.heap.size + 1 + 1, 1, none⟩ (.int .i64 (Im.st s 0 : Nat))).alloc (.cells #[.int .i64 0, .int .i64 0, .int .i64 0, .int .i64 2, .slice none 0 0, .slice none 0 0, .int .i64 0, .int .i64 (-1)] 39))) := Or.inl ⟨Im.st0 s, 0, _, Nat.zero_le _, Im.good_start s inp n ho, hMc, rfl, hrb1⟩
  have HZ : Hid (∀ w4, Below (w.heap.size + 1 + 1) ((w3.setCell ⟨w.heap.size + 1 + 1, 1, none⟩ (.int .i64 (Im.st s 0 : Nat))).alloc (.cells #[.int .i64 0, .int .i64 0, .int .i64 0, .int .i64 2, .slice none 0 0, .slice none 0 0, .int .i64 0, .int .i64 (-1)] 39)) w4 → w4.heap[w.heap.size + 1]? = some (.cells #[.int .i64 0, .int .i64 0, .int .i64 0, .int .i64 0, .slice none 0 0, .slice none 0 0, .int .i64 0, .int .i64 0] 39 (0, 0))) := fun w4 h => (h.block _ (by omega)).trans ((hW13.block _ (by omega)).trans hzb)
  have HWB : Hid (∀ w4, Below (w.heap.size + 1 + 1) ((w3.setCell ⟨w.heap.size + 1 + 1, 1, none⟩ (.int .i64 (Im.st s 0 : Nat))).alloc (.cells #[.int .i64 0, .int .i64 0, .int .i64 0, .int .i64 2, .slice none 0 0, .slice none 0 0, .int .i64 0, .int .i64 (-1)] 39)) w4 → Below w.heap.size w w4) := fun w4 h => hB1.trans (h.mono (by omega))
  have HO : Hid (Im.Okay s n) := ho
  have p0 : w3.cell? ⟨w.heap.size, 0, none⟩ = some (.slice (some ⟨bs, 0, none⟩) (n + 1) cs) := cell_of_heap hpb rfl
  have c1 := hL.cell 1 (by omega)
  have z1 := hL.frz 1
  rw [hsz] at c1 z1
  rw [hL.bl.g1] at c1
  clear hL hsz hpb hzb hB0 hb3 hB3 hB1 hMf hMc hrb1 hM hW13 ho hst
  go_enter Tryz.func26, Tryz.ntmps26
  go_wp2_with fail
  clear hbox hrun hst3 p0 c1 z1
  go_loopw [] (fun wr => PlC s inp n (w.heap.size + 1 + 1) bs bc cs (w.heap.size + 1 + 1 + 1) fuel wr ∧ Below (w.heap.size + 1 + 1) ((w3.setCell ⟨w.heap.size + 1 + 1, 1, none⟩ (.int .i64 (Im.st s 0 : Nat))).alloc (.cells #[.int .i64 0, .int .i64 0, .int .i64 0, .int .i64 2, .slice none 0 0, .slice none 0 0, .int .i64 0, .int .i64 (-1)] 39)) wr) (fun wr => msc (w.heap.size + 1 + 1 + 1) fuel wr)
  case atStart => exact ⟨HST.out, Below.refl _ _⟩
  case round =>
    clear HST
    obtain ⟨hP, hB⟩ := hrel
    have HB : Hid (Below (w.heap.size + 1 + 1) ((w3.setCell ⟨w.heap.size + 1 + 1, 1, none⟩ (.int .i64 (Im.st s 0 : Nat))).alloc (.cells #[.int .i64 0, .int .i64 0, .int .i64 0, .int .i64 2, .slice none 0 0, .slice none 0 0, .int .i64 0, .int .i64 (-1)] 39)) wr) := hB
    have hsw := hB.size
    simp at hsw
    have hsw2 : w.heap.size + 1 + 1 + 1 < wr.heap.size := by omega
    clear hB hsw
    rcases hP with ⟨m, k, L, hk, hg, hM, hr, hblk⟩ | ⟨v4, hO⟩
    · by_cases hkf : k < fuel
      · have HI : Hid (Iv s inp n m) := iv_of s inp n m HO.out hi hg
        have HG : Hid (Im.Good s inp n m) := hg
        have HM : Hid (Mc s inp n (w.heap.size + 1 + 1) bs bc cs (w.heap.size + 1 + 1 + 1 + 1) m false L wr) := hM
        have HR : Hid (Im.runP s inp fuel (Im.st0 s) 0 = Im.runP s inp (fuel - k) m k) := hr
        have HMS : Hid (msc (w.heap.size + 1 + 1 + 1) fuel wr = fuel + 1 - k) := by show msc _ _ _ = _; rw [msc_of hblk]; rfl
        obtain ⟨⟨c0, c1, c2, c3, c4, c5, c6, c7⟩, cz, crl⟩ := rb_cells hblk
        have HBLK : Hid _ := hblk
        clear hg hM hr hblk c0 c1 c2 c4 c5 c7 cz
        go_wp2_with fail
        refine (cstep_any s inp n (w.heap.size + 1 + 1) bs bc cs (w.heap.size + 1 + 1 + 1 + 1) m L _ HM.out HI.out).mono ?_
        rintro e w2 ⟨hK, h⟩
        have hb2 := (hK.block (w.heap.size + 1 + 1 + 1) (by omega) (by omega)).trans HBLK.out
        have HB2 : Hid (Below (w.heap.size + 1 + 1) ((w3.setCell ⟨w.heap.size + 1 + 1, 1, none⟩ (.int .i64 (Im.st s 0 : Nat))).alloc (.cells #[.int .i64 0, .int .i64 0, .int .i64 0, .int .i64 2, .slice none 0 0, .slice none 0 0, .int .i64 0, .int .i64 (-1)] 39)) w2) := HB.out.trans (below_of_kx hK (by omega))
        have hs2 := hK.size
        obtain ⟨⟨d0, d1, d2, d3, d4, d5, d6, d7⟩, dz, drl⟩ := rb_cells hb2
        have y3 := dz 3
        have y4 := dz 4
        have y6 := dz 6
        have y7 := dz 7
        have y0 := dz 0
        have y1 := dz 1
        have y2 := dz 2
        have HB2K : Hid _ := hb2
        clear c3 c6 dz hK hb2
        have hne1 : w.heap.size + 1 + 1 + 1 ≠ bs := by omega
        have hne2 : w.heap.size + 1 + 1 + 1 ≠ bc := by omega
        rcases h with ⟨h0, rfl, L', hM'⟩ | ⟨h10, rfl, L', hM'⟩ | ⟨hn0, hn10, rfl, m', L', hM', e1, e2, e3, e4⟩
        · have HN := plc_go HO.out HG.out hkf HR.out h0 hM' HB2K.out (by omega) hne1 hne2
          have HN1 : Hid _ := HN.1
          have HN2 : Hid _ := HN.2
          have k423 := hM'.bx.cell 423 (by omega)
          rw [hM'.lm.l423] at k423
          clear HN h0 hM'
          go_wp2_with fail
          go_roundw
          case rel => exact ⟨HN1.out, HB2.out.setCell (p := ⟨w.heap.size + 1 + 1 + 1, 6, none⟩) (by show w.heap.size + 1 + 1 ≤ w.heap.size + 1 + 1 + 1; omega) _⟩
          case measure => rw [HMS.out]; exact HN2.out
        · have HN := fun q => plc_done (bs := bs) (bc := bc) (cs := cs) hkf HR.out h10 hM' HB2K.out (by omega) q
          have HN1 : Hid _ := HN
          have k423 := hM'.bx.cell 423 (by omega)
          rw [hM'.lm.l423] at k423
          have HM2 : Hid (Mc s inp n (w.heap.size + 1 + 1) bs bc cs (w.heap.size + 1 + 1 + 1 + 1) m true L' ((w2.setCell ⟨w.heap.size + 1 + 1 + 1, 6, none⟩ (.int .i64 ((k : Int) + 1))).setCell ⟨w.heap.size + 1 + 1 + 1, 3, none⟩ (.int .i64 0))) := (hM'.low _ 6 _ (by omega) (by omega) hne1 hne2).low _ 3 _ (by omega) (by omega) hne1 hne2
          clear HN h10 hM'
          go_wp2_with fail
          refine (ctop_any s inp n _ bs bc cs _ m true L' _ HM2.out (by have := HI.out.hl; omega) HI.out.hv).mono ?_
          rintro e w5 ⟨rfl, q, rfl⟩
          go_wp2_with fail
          go_roundw
          case rel => exact ⟨(HN1.out q).1, below_drewN q (((HB2.out.setCell (p := ⟨w.heap.size + 1 + 1 + 1, 6, none⟩) (by show w.heap.size + 1 + 1 ≤ w.heap.size + 1 + 1 + 1; omega) _).setCell (p := ⟨w.heap.size + 1 + 1 + 1, 3, none⟩) (by show w.heap.size + 1 + 1 ≤ w.heap.size + 1 + 1 + 1; omega) _).setCell (p := ⟨w.heap.size + 1 + 1 + 1, 7, none⟩) (by show w.heap.size + 1 + 1 ≤ w.heap.size + 1 + 1 + 1; omega) _)⟩
          case measure => rw [HMS.out]; exact (HN1.out q).2
        · have HN := fun w6 v6 => plc_fault (w3 := w6) (v4 := v6) hkf HR.out hn0 hn10 hM' e4 HB2K.out (by omega) hne1 hne2
          have HN1 : Hid _ := HN
          have k0 := hM'.bx.cell 0 (by omega)
          have k1 := hM'.bx.cell 1 (by omega)
          rw [hM'.lm.l0, e1] at k0
          rw [hM'.lm.l1, e2] at k1
          have HM2 : Hid (Mc s inp n (w.heap.size + 1 + 1) bs bc cs (w.heap.size + 1 + 1 + 1 + 1) m' false L' (wbl w2 (w.heap.size + 1 + 1 + 1) k m.fn m.at_ (Im.stepP s inp m).2)) := wbl_mc hM' (by omega) hne1 hne2
          have HWBL : Hid (Below (w.heap.size + 1 + 1) ((w3.setCell ⟨w.heap.size + 1 + 1, 1, none⟩ (.int .i64 (Im.st s 0 : Nat))).alloc (.cells #[.int .i64 0, .int .i64 0, .int .i64 0, .int .i64 2, .slice none 0 0, .slice none 0 0, .int .i64 0, .int .i64 (-1)] 39)) (wbl w2 (w.heap.size + 1 + 1 + 1) k m.fn m.at_ (Im.stepP s inp m).2)) := wbl_below HB2.out (by omega) (by omega)
          have hcl : m.cal.length ≤ 8 := HI.out.hcl
          have E3 : Hid (m'.cal = m.cal) := e3
          have hWB := wbl_blk (f := m.fn) (a := m.at_) (kd := (Im.stepP s inp m).2) HB2K.out
          clear HN hM' e1 e2 e3 e4
          have HB3K : Hid (((w2.setCell ⟨w.heap.size + 1 + 1 + 1, 6, none⟩ (.int .i64 ((k : Int) + 1))).setCell ⟨w.heap.size + 1 + 1 + 1, 3, none⟩ (.int .i64 1)).heap[w.heap.size + 1 + 1 + 1]? = some (rblk 0 0 0 1 (.slice none 0 0) (.slice none 0 0) (k + 1) (-1))) := hset (hset HB2K.out)
          generalize Im.stepP s inp m = sp at *
          have hkd : (((sp.2 : Nat) : Int) != 0) = true := by simpa using hn0
          go_wp2_with fail
          refine (blame_any (w.heap.size + 1 + 1 + 1) m.fn m.at_ (sp.2 : Nat) _ (.int .i64 0) (.int .i64 0) (.int .i64 0) ?b0 ?b1 ?b2 ?b3 ?b4 ?b5 ?b6).mono ?_
          case b0 => exact (rb_cells HB3K.out).2.2
          case b1 => exact (rb_cells HB3K.out).1.1
          case b2 => exact (rb_cells HB3K.out).1.2.1
          case b3 => exact (rb_cells HB3K.out).1.2.2.1
          case b4 => exact (rb_cells HB3K.out).2.1 0
          case b5 => exact (rb_cells HB3K.out).2.1 1
          case b6 => exact (rb_cells HB3K.out).2.1 2
          rintro e w5 ⟨rfl, hw5⟩
          change w5 = wbl w2 (w.heap.size + 1 + 1 + 1) k m.fn m.at_ sp.2 at hw5
          subst hw5
          have k6 := HM2.out.bx.cell 6 (by omega)
          obtain ⟨a6, cap6, hv6, -, -, -⟩ := owns_shape HM2.out.rc
          have hrc := HM2.out.rc
          rw [hv6] at k6 hrc
          rw [E3.out] at k6 hrc
          generalize wbl w2 (w.heap.size + 1 + 1 + 1) k m.fn m.at_ sp.2 = w5 at *
          clear d0 d1 d2 d3 d4 d5 d6 d7 y0 y1 y2 y3 y4 y6 y7 k0 k1
          go_wp2_with fail
          refine (cpending_any (w.heap.size + 1 + 1) _ _ m.cal _ k6 hrc hcl).mono ?_
          rintro e w6 ⟨v6, rfl, ho6, hB6⟩
          have hl5 := (Array.getElem?_eq_some_iff.1 hWB).1
          obtain ⟨⟨d0, d1, d2, d3, d4, d5, d6, d7⟩, dz, drl2⟩ := rb_cells ((hB6.block (w.heap.size + 1 + 1 + 1) hl5).trans hWB)
          have y4 := dz 4
          have HN2 := HN1.out w6 v6 ho6 hB6
          obtain ⟨a7, cap7, hv7, -, -, -⟩ := owns_shape ho6
          have HN3 : Hid _ := HN2.1
          have HN4 : Hid _ := HN2.2
          have HB6 : Hid (Below (w.heap.size + 1 + 1) ((w3.setCell ⟨w.heap.size + 1 + 1, 1, none⟩ (.int .i64 (Im.st s 0 : Nat))).alloc (.cells #[.int .i64 0, .int .i64 0, .int .i64 0, .int .i64 2, .slice none 0 0, .slice none 0 0, .int .i64 0, .int .i64 (-1)] 39)) w6) := HWBL.out.trans (hB6.mono (by omega))
          subst hv7
          clear HN2 ho6 hB6 hrc k6 dz hWB HN1 HM2 HWBL
          go_wp2_with fail
          go_roundw
          case rel => exact ⟨HN3.out, HB6.out.setCell (p := ⟨w.heap.size + 1 + 1 + 1, 4, none⟩) (by show w.heap.size + 1 + 1 ≤ w.heap.size + 1 + 1 + 1; omega) _⟩
          case measure => rw [HMS.out]; exact HN4.out
      · obtain rfl : k = fuel := by omega
        rw [Nat.sub_self] at hr
        obtain ⟨r, HR0⟩ : ∃ r : Rn, r = (2, 0, m, k) := ⟨_, rfl⟩
        have HR : Hid (Im.runP s inp k (Im.st0 s) 0 = r) := by rw [HR0]; exact hr
        have hedg : ∀ i, i < 400 → wr.cell? ⟨w.heap.size + 1 + 1, 23 + i, none⟩ = some (.bool (r.2.2.1.edg i)) := fun i hi => by rw [HR0, hM.bx.cell (23 + i) (by omega), hM.lm.le i hi]
        obtain ⟨v4, hrow, hblk⟩ : ∃ v4, wr.ownsRow (w.heap.size + 1 + 1 + 1 + 1) 34 2 v4 (rsts r).length (prs (rsts r)) ∧ wr.heap[w.heap.size + 1 + 1 + 1]? = some (rblk (rfa r) (rpa r) r.2.1 r.1 v4 (.slice none 0 0) r.2.2.2 (rtop r)) := ⟨.slice none 0 0, by rw [HR0]; exact World.ownsRow_nil _ _ _ _, by rw [HR0]; exact hblk⟩
        have hr1 : r.1 = 2 := by rw [HR0]
        have hr4 : r.2.2.2 = k := by rw [HR0]
        clear hr hM hg hkf HR0
        obtain ⟨a4, cap4, hv4, -, -, -⟩ := owns_shape hrow
        subst hv4
        obtain ⟨⟨c0, c1, c2, c3, c4, c5, c6, c7⟩, cz, crl⟩ := rb_cells hblk
        have HROW : Hid _ := hrow
        have HBLK : Hid _ := hblk
        have HEDG : Hid _ := hedg
        clear hrow hblk hedg
        rw [hr1] at c3
        rw [hr4] at c6
        go_wp2_with fail
        refine (cpassed_any (w.heap.size + 1 + 1) r.2.2.1.edg _ HEDG.out).mono ?_
        rintro e w4 ⟨v5, rfl, ho5, hB5⟩
        obtain ⟨a5, cap5, hv5, -, -, -⟩ := owns_shape ho5
        subst hv5
        have hb4 := (hB5.block (w.heap.size + 1 + 1 + 1) crl).trans HBLK.out
        have hrb := HZ.out w4 (HB.out.trans (hB5.mono (by omega)))
        clear c0 c1 c2 c3 c4 c5 c6 c7 cz
        obtain ⟨⟨c0, c1, c2, c3, c4, c5, c6, c7⟩, cz, crl4⟩ := rb_cells hb4
        have y5 := cz 5
        obtain ⟨⟨d0, d1, d2, d3, d4, d5, d6, d7⟩, ⟨f0, f1, f2, f3, f4, f5, f6, f7⟩⟩ := z8_of hrb
        have HO5 : Hid _ := ho5
        have HB5 : Hid _ := hB5
        clear ho5 hB5 hb4 hrb cz
        go_wp2_with fail
        refine bodyPost_ret (v := .agg #[.int .i64 (rfa r : Nat), .int .i64 (rpa r : Nat), .int .i64 (r.2.1 : Nat), .int .i64 (r.1 : Nat), .slice a4 (rsts r).length cap4, .slice a5 (Im.el r.2.2.1.edg).length cap5, .int .i64 (r.2.2.2 : Nat), .int .i64 (rtop r)]) (by simp [results, Tryz.results26, go_sem, d0, d1, d2, d3, d4, d5, d6, d7, hr1, hr4]) rfl ?_
        rw [HR.out]
        refine ⟨_, _, rfl, ?_, ?_, ?_⟩
        · exact owns_base (put8_owns (owns_setb (World.ownsRow.kept HROW.out (grown_of_below HB5.out) (by rcases hx : Value.ownBlock (.slice a4 (rsts r).length cap4) with _ | x; exact Or.inl rfl; exact Or.inr (by simp))) (by omega)) (by omega)) (by omega)
        · exact owns_base (put8_owns (owns_setb HO5.out (by omega)) (by omega)) (by omega)
        · exact put8_below (HWB.out _ ((HB.out.trans (HB5.out.mono (by omega))).setCell (p := ⟨w.heap.size + 1 + 1 + 1, 5, none⟩) (by show w.heap.size + 1 + 1 ≤ w.heap.size + 1 + 1 + 1; omega) _)) (by omega)
    · obtain ⟨r, HR⟩ : ∃ r, Hid (Im.runP s inp fuel (Im.st0 s) 0 = r) := ⟨_, rfl⟩
      rw [HR.out] at hO
      have hen := hO.en
      have hrow := hO.row
      have hblk := hO.blk
      have hedg := hO.edg
      have hr1 : ((r.1 : Int) == 2) = false := by rw [beq_eq_false_iff_ne]; omega
      clear hO hen
      obtain ⟨a4, cap4, hv4, -, -, -⟩ := owns_shape hrow
      subst hv4
      obtain ⟨⟨c0, c1, c2, c3, c4, c5, c6, c7⟩, cz, crl⟩ := rb_cells hblk
      have HROW : Hid _ := hrow
      have HBLK : Hid _ := hblk
      have HEDG : Hid _ := hedg
      clear hrow hblk hedg
      go_wp2_with fail
      refine (cpassed_any (w.heap.size + 1 + 1) r.2.2.1.edg _ HEDG.out).mono ?_
      rintro e w4 ⟨v5, rfl, ho5, hB5⟩
      obtain ⟨a5, cap5, hv5, -, -, -⟩ := owns_shape ho5
      subst hv5
      have hb4 := (hB5.block (w.heap.size + 1 + 1 + 1) crl).trans HBLK.out
      have hrb := HZ.out w4 (HB.out.trans (hB5.mono (by omega)))
      clear c0 c1 c2 c3 c4 c5 c6 c7 cz
      obtain ⟨⟨c0, c1, c2, c3, c4, c5, c6, c7⟩, cz, crl4⟩ := rb_cells hb4
      have y5 := cz 5
      obtain ⟨⟨d0, d1, d2, d3, d4, d5, d6, d7⟩, ⟨f0, f1, f2, f3, f4, f5, f6, f7⟩⟩ := z8_of hrb
      have HO5 : Hid _ := ho5
      have HB5 : Hid _ := hB5
      clear ho5 hB5 hb4 hrb cz
      go_wp2_with fail
      refine bodyPost_ret (v := .agg #[.int .i64 (rfa r : Nat), .int .i64 (rpa r : Nat), .int .i64 (r.2.1 : Nat), .int .i64 (r.1 : Nat), .slice a4 (rsts r).length cap4, .slice a5 (Im.el r.2.2.1.edg).length cap5, .int .i64 (r.2.2.2 : Nat), .int .i64 (rtop r)]) (by simp [results, Tryz.results26, go_sem, d0, d1, d2, d3, d4, d5, d6, d7]) rfl ?_
      rw [HR.out]
      refine ⟨_, _, rfl, ?_, ?_, ?_⟩
      · exact owns_base (put8_owns (owns_setb (World.ownsRow.kept HROW.out (grown_of_below HB5.out) (by rcases hx : Value.ownBlock (.slice a4 (rsts r).length cap4) with _ | x; exact Or.inl rfl; exact Or.inr (by simp))) (by omega)) (by omega)) (by omega)
      · exact owns_base (put8_owns (owns_setb HO5.out (by omega)) (by omega)) (by omega)
      · exact put8_below (HWB.out _ ((HB.out.trans (HB5.out.mono (by omega))).setCell (p := ⟨w.heap.size + 1 + 1 + 1, 5, none⟩) (by show w.heap.size + 1 + 1 ≤ w.heap.size + 1 + 1 + 1; omega) _)) (by omega)
end Go.Proofs.YtbmaiioecnmopaaGreatDoor

/-
  THE PROGRAM's SIDE (package triage): Run. By the verifier of the loop 'triage'.
-/
namespace Go.Proofs.YtbmaiioecnmopaaGreatDoor
open Go.RowKit

/-- a report of the program's type. -/
def RepC (B : Nat) (w : World) (p : Rp) (v : Value) : Prop :=
  ∃ v4 v5, v = .agg #[.int .i64 (p.fa : Nat), .int .i64 (p.pa : Nat), .int .i64 (p.kd : Nat), .int .i64 (p.en : Nat), v4, v5, .int .i64 (p.k : Nat), .int .i64 p.top] ∧
    w.ownsRow B 34 2 v4 p.sts.length (prs p.sts) ∧ w.ownsRow B 3 1 v5 p.eds.length (ints p.eds)
def CRun (s inp : ByteArray) (fuel : Int) (w w' : World) (e : Ending) : Prop :=
  ∃ v, e = .returned (.tuple #[v, .int .i64 (outP s inp fuel).2.1, .int .i64 (outP s inp fuel).2.2]) ∧ RepC w.heap.size w' (outP s inp fuel).1 v ∧ Below w.heap.size w w'
theorem crun_none {s inp : ByteArray} {fuel c p : Int} {w w1 : World} (ho : outP s inp fuel = (rz, c, p)) (hb : Below w.heap.size w w1) (v0 v1 v2 v3 v4 v5 v6 v7 : Value) :
    CRun s inp fuel w (put8 w1 w.heap.size v0 v1 v2 v3 v4 v5 v6 v7) (.returned (.tuple #[.agg #[.int .i64 0, .int .i64 0, .int .i64 0, .int .i64 0, .slice none 0 0, .slice none 0 0, .int .i64 0, .int .i64 0], .int .i64 c, .int .i64 p])) := by
  unfold CRun
  rw [ho]
  exact ⟨_, rfl, ⟨_, _, rfl, World.ownsRow_nil _ _ _ _, World.ownsRow_nil _ _ _ _⟩, put8_below hb (Nat.le_refl _)⟩
theorem crun_noneA {s inp : ByteArray} {fuel c p : Int} {w w1 : World} (ho : outP s inp fuel = (rz, c, p)) (hb : Below w.heap.size w w1) (v0 v1 v2 v3 v4 v5 v6 v7 : Value) (o : Obj) :
    CRun s inp fuel w ((put8 w1 w.heap.size v0 v1 v2 v3 v4 v5 v6 v7).alloc o) (.returned (.tuple #[.agg #[.int .i64 0, .int .i64 0, .int .i64 0, .int .i64 0, .slice none 0 0, .slice none 0 0, .int .i64 0, .int .i64 0], .int .i64 c, .int .i64 p])) := by
  unfold CRun
  rw [ho]
  have h := put8_below (v0 := v0) (v1 := v1) (v2 := v2) (v3 := v3) (v4 := v4) (v5 := v5) (v6 := v6) (v7 := v7) hb (Nat.le_refl _)
  exact ⟨_, rfl, ⟨_, _, rfl, World.ownsRow_nil _ _ _ _, World.ownsRow_nil _ _ _ _⟩, h.alloc h.size _⟩

set_option maxHeartbeats 1600000 in
set_option maxRecDepth 100000 in
/-- THE PROGRAM's Run. -/
theorem crun_any (s inp : ByteArray) (fuel : Int) (w : World) (hG : Glob w) :
    Calls Tryz.prog 11 #[.string s, .string inp, .int .i64 fuel] w fun e w' => CRun s inp fuel w w' e := by
  have HG : Hid (Glob w) := hG
  clear hG
  go_enter Tryz.func11, Tryz.ntmps11
  go_wp2_with fail
  refine (read_all s _ (HG.out.tab.below ((Below.refl _ _).alloc (Nat.le_refl _) _))).mono ?_
  rintro e w1 (⟨hc, er, rfl, hw, hb⟩ | ⟨hc, bp, bs, bc, cs, rfl, h1, h2, hM, hb, hcs, hcm⟩)
  · have HO : Hid (outP s inp fuel = (rz, (Im.chk s).1, (Im.chk s).2)) := by
      show outP s inp fuel = _
      unfold outP; rw [if_pos hc]
    have hrb : w1.heap[w.heap.size]? = some (.cells #[.int .i64 0, .int .i64 0, .int .i64 0, .int .i64 0, .slice none 0 0, .slice none 0 0, .int .i64 0, .int .i64 0] 39 (0, 0)) := by
      rw [hb.block w.heap.size (by simp)]; exact heap_new _ _
    have hsz1 : w.heap.size < w1.heap.size := by have := hb.size; simp at this; omega
    have HB : Hid (Below w.heap.size w w1) := below_new hb
    obtain ⟨t, b, rfl⟩ := wrapped_shape hw
    have HW : Hid _ := hw
    clear hw hb hc
    go_wp2_with fail
    refine (verdict_any _ _ (Im.chk s).1 (Im.chk s).2 _ ((HG.out.below (HB.out)).below ((Below.refl _ _).alloc (Nat.le_refl _) _)) (Wrapped.below HW.out ((Below.refl _ _).alloc (Nat.le_refl _) _))).mono ?_
    rintro e w2 ⟨rfl, hb2⟩
    have hb3 : Below w.heap.size w w2 := (HB.out.alloc (Nat.le_of_lt hsz1) _).trans (hb2.mono (by simp; omega))
    have hrb2 := (hb2.block w.heap.size (by simp; omega)).trans ((Below.heap_alloc _ _ _ hsz1).trans hrb)
    obtain ⟨⟨d0, d1, d2, d3, d4, d5, d6, d7⟩, ⟨f0, f1, f2, f3, f4, f5, f6, f7⟩⟩ := z8_of hrb2
    have HB3 : Hid _ := hb3
    clear hb2 hb3 hrb hrb2
    generalize Im.chk s = ck at *
    go_wp2
    exact bodyPost_ret (v := .tuple #[.agg #[.int .i64 0, .int .i64 0, .int .i64 0, .int .i64 0, .slice none 0 0, .slice none 0 0, .int .i64 0, .int .i64 0], .int .i64 ck.1, .int .i64 ck.2]) (by simp [results, Tryz.results11, go_sem, d0, d1, d2, d3, d4, d5, d6, d7]) rfl (crun_none HO.out HB3.out _ _ _ _ _ _ _ _)
  · have hrb : w1.heap[w.heap.size]? = some (.cells #[.int .i64 0, .int .i64 0, .int .i64 0, .int .i64 0, .slice none 0 0, .slice none 0 0, .int .i64 0, .int .i64 0] 39 (0, 0)) := by
      rw [hb.block w.heap.size (by simp)]; exact heap_new _ _
    have hsz1 : w.heap.size < w1.heap.size := by have := hb.size; simp at this; omega
    have HB : Hid (Below w.heap.size w w1) := below_new hb
    obtain ⟨⟨d0, d1, d2, d3, d4, d5, d6, d7⟩, ⟨f0, f1, f2, f3, f4, f5, f6, f7⟩⟩ := z8_of hrb
    have h0 : (Im.chk s).1 = 0 := by rw [hc]
    have HOK : Hid (Im.Okay s (Im.bt s 0)) := Im.okay_of s hc
    have HM : Hid (Mem s (Im.bt s 0) bp bs bc cs (allD s (Im.bt s 0)) w1) := hM
    clear hM hb h1 h2 hc
    by_cases hi : 24 < inp.size
    · have HO : Hid (outP s inp fuel = (rz, 1, 0)) := by
        show outP s inp fuel = _
        unfold outP; rw [if_neg (by simpa using h0), if_pos hi]
      go_wp2
      exact bodyPost_ret (v := .tuple #[.agg #[.int .i64 0, .int .i64 0, .int .i64 0, .int .i64 0, .slice none 0 0, .slice none 0 0, .int .i64 0, .int .i64 0], .int .i64 1, .int .i64 0]) (by simp [results, Tryz.results11, go_sem, d0, d1, d2, d3, d4, d5, d6, d7, hsz1]) rfl (crun_noneA HO.out HB.out _ _ _ _ _ _ _ _ _)
    · by_cases hf : fuel < 0 ∨ 2000 < fuel
      · have HO : Hid (outP s inp fuel = (rz, 6, 0)) := by
          show outP s inp fuel = _
          unfold outP; rw [if_neg (by simpa using h0), if_neg hi, if_pos hf]
        by_cases hf0 : fuel < 0
        all_goals
          go_wp2
          exact bodyPost_ret (v := .tuple #[.agg #[.int .i64 0, .int .i64 0, .int .i64 0, .int .i64 0, .slice none 0 0, .slice none 0 0, .int .i64 0, .int .i64 0], .int .i64 6, .int .i64 0]) (by simp [results, Tryz.results11, go_sem, d0, d1, d2, d3, d4, d5, d6, d7, hsz1]) rfl (crun_noneA HO.out HB.out _ _ _ _ _ _ _ _ _)
      · obtain ⟨fu, rfl⟩ : ∃ fu : Nat, fuel = (fu : Int) := ⟨fuel.toNat, by omega⟩
        have HO : Hid (outP s inp (fu : Int) = (ofR (Im.runP s inp fu (Im.st0 s) 0), 0, 0)) := by
          show outP s inp (fu : Int) = _
          unfold outP; rw [if_neg (by simpa using h0), if_neg hi, if_neg hf]; rfl
        have hf2 : fu ≤ 2000 := by omega
        have hi2 : inp.size ≤ 24 := by omega
        clear hf hi
        go_wp2_with fail
        refine (cplay_any s inp (Im.bt s 0) bp bs bc cs fu _ HOK.out hi2 hf2 (HM.out.below ((Below.refl _ _).alloc (Nat.le_refl _) _)) hcs hcm).mono ?_
        rintro e w2 ⟨v4, v5, rfl, h4, h5, hb2⟩
        have hz2 : w1.heap.size < w2.heap.size := by have := hb2.size; simp at this; omega
        have hrb2 := (hb2.block w.heap.size (by simp; omega)).trans ((Below.heap_alloc _ _ _ hsz1).trans hrb)
        clear d0 d1 d2 d3 d4 d5 d6 d7 f0 f1 f2 f3 f4 f5 f6 f7
        obtain ⟨⟨d0, d1, d2, d3, d4, d5, d6, d7⟩, ⟨f0, f1, f2, f3, f4, f5, f6, f7⟩⟩ := z8_of hrb2
        have HB2 : Hid (Below w.heap.size w w2) := (HB.out.alloc (Nat.le_of_lt hsz1) _).trans (hb2.mono (by simp; omega))
        obtain ⟨r, HR⟩ : ∃ r, Hid (Im.runP s inp fu (Im.st0 s) 0 = r) := ⟨_, rfl⟩
        rw [HR.out] at h4 h5 HO
        rw [HR.out]
        have h4' := owns_base (base' := w.heap.size + 1) h4 (by simp; omega)
        have h5' := owns_base (base' := w.heap.size + 1) h5 (by simp; omega)
        obtain ⟨a1, cap1, hv1, -, -, -⟩ := owns_shape h4
        obtain ⟨a2, cap2, hv2, -, -, -⟩ := owns_shape h5
        subst hv1 hv2
        have H4 : Hid _ := h4'
        have H5 : Hid _ := h5'
        clear hb2 h4 h5 h4' h5' hrb hrb2
        go_wp2
        refine bodyPost_ret (v := .tuple #[.agg #[.int .i64 (rfa r : Nat), .int .i64 (rpa r : Nat), .int .i64 (r.2.1 : Nat), .int .i64 (r.1 : Nat), .slice a1 (rsts r).length cap1, .slice a2 (Im.el r.2.2.1.edg).length cap2, .int .i64 (r.2.2.2 : Nat), .int .i64 (rtop r)], .int .i64 0, .int .i64 0]) (by simp [results, Tryz.results11, go_sem, d0, d1, d2, d3, d4, d5, d6, d7]) rfl ?_
        unfold CRun
        rw [HO.out]
        exact ⟨_, rfl, ⟨_, _, rfl, owns_base (put8_owns H4.out (Nat.lt_succ_self _)) (Nat.le_succ _), owns_base (put8_owns H5.out (Nat.lt_succ_self _)) (Nat.le_succ _)⟩, put8_below HB2.out (Nat.le_refl _)⟩
end Go.Proofs.YtbmaiioecnmopaaGreatDoor
