/-
  THE PROGRAM's SIDE (package triage): read, of a text with a good head. By the verifier of the loop 'triage'.
-/
import Derived.Test.YthljaemhgkepoaaDoorCodeE
namespace Go.Proofs.YthljaemhgkepoaaDoor
open Go.RowKit

theorem Tryd.infoInstr : (Tryd.prog.info? 135).map (fun i => (i.zero, i.size, i.bytes)) = some (some (.agg #[.int .i64 0, .int .i64 0, .int .u8 0, .int .u8 0]), 4, 24) := by kernel_rfl
theorem Tryd.undCode : Tryd.prog.underlying 70 = some (.slice 135) := by kernel_rfl

/-- the table of the ops. -/
structure Tab (w : World) : Prop where
  t0 : ∀ op, op < 18 → w.cell? ⟨2, op * 2, none⟩ = some (.int .i64 (tk op : Nat))
  t1 : ∀ op, op < 18 → w.cell? ⟨2, op * 2 + 1, none⟩ = some (.int .i64 (Im.sz op : Nat))

theorem Tab.below {w w' : World} (h : Tab w) (hb : Below w.heap.size w w') : Tab w' where
  t0 op ho := (hb.cell (p := ⟨2, op * 2, none⟩) (World.block_lt_of_cell? w _ (h.t0 op ho))).trans (h.t0 op ho)
  t1 op ho := (hb.cell (p := ⟨2, op * 2 + 1, none⟩) (World.block_lt_of_cell? w _ (h.t1 op ho))).trans (h.t1 op ho)
theorem Tab.lt {w : World} (h : Tab w) : 2 < w.heap.size := World.block_lt_of_cell? w ⟨2, 0 * 2, none⟩ (h.t0 0 (by omega))

theorem made_at (z : Array Value) (m j : Nat) (h : j < m) : (madeCells z m).toList[j]? = some (z[j % z.size]!) := by
  simp [madeCells, h]

abbrev zInstr : Value := .agg #[.int .i64 0, .int .i64 0, .int .u8 0, .int .u8 0]

/-- the memory as read's loops begin. -/
theorem mem_start {s : ByteArray} {n bs cs : Nat} {w w1 w2 : World} (fs : Array Value) (hT : Tab w) (hbl : Below (w.heap.size + 2) (rw0 s w) w1) (hw1 : w.heap.size + 2 ≤ w1.heap.size)
    (hbs : bs < w1.heap.size) (hst : ∀ j, j ≤ n → w1.cell? ⟨bs, j, none⟩ = some (.int .i64 (Im.st s j : Nat)))
    (hown : w2.ownsRow w1.heap.size 135 4 (.slice (some ⟨w1.heap.size, 0, none⟩) s.size s.size) s.size (madeCells zInstr.cells (s.size * 4)).toList) (hgrow : w1.grownBy w2 none) :
    ∃ W, W = (w2.alloc (.cells #[.slice (some ⟨bs, 0, none⟩) (n + 1) cs, .slice (some ⟨w1.heap.size, 0, none⟩) s.size s.size] 72)).alloc (.cells fs 97) ∧
      Mem s n w2.heap.size bs w1.heap.size cs [] W ∧ W.heap[w.heap.size]? = some (.cells #[.string s] 9 (0, 0)) ∧ W.heap[w.heap.size + 1]? = (rw0 s w).heap[w.heap.size + 1]? ∧
      W.heap[w2.heap.size + 1]? = some (.cells fs 97 (0, 0)) ∧ Below w.heap.size w W ∧ w1.heap.size < w2.heap.size ∧ W.heap.size = w2.heap.size + 2 := by
  refine ⟨_, rfl, ?_⟩
  have hlt : w1.heap.size < w2.heap.size := by
    obtain ⟨_, ⟨h, _⟩ | ⟨g, cap, cur, h, _, hg, _⟩⟩ := hown
    · simp at h
    · obtain ⟨rfl, _⟩ : w1.heap.size = g ∧ s.size = cap := by simpa using h
      exact (Array.getElem?_eq_some_iff.1 hg).1
  have hfz : ∀ o, w2.frozen? ⟨w1.heap.size, o, none⟩ = false := by
    obtain ⟨_, ⟨h, _⟩ | ⟨g, cap, cur, h, _, hg, _⟩⟩ := hown
    · simp at h
    · obtain ⟨rfl, _⟩ : w1.heap.size = g ∧ s.size = cap := by simpa using h
      exact fun o => free_of_heap hg
  have hcell : ∀ j, j < s.size * 4 → w2.cell? ⟨w1.heap.size, j, none⟩ = some (zInstr.cells[j % 4]!) := by
    intro j hj
    have h := hown.cells (g := w1.heap.size) rfl j _ (made_at _ _ _ hj)
    rw [addr_add] at h
    exact h
  have hb12 : Below w1.heap.size w1 w2 := (Below.refl _ _).grown hgrow (Nat.le_refl _) (fun k h => by simp at h)
  have hb2 : ∀ o o', Below w2.heap.size w2 ((w2.alloc o).alloc o') := fun o o' => ((Below.refl _ _).alloc (Nat.le_refl _) _).alloc (by simp) _
  have hb1 : ∀ o o', Below w1.heap.size w1 ((w2.alloc o).alloc o') := fun o o' => hb12.trans ((hb2 o o').mono (by omega))
  have hbr : ∀ o o', Below (w.heap.size + 2) (rw0 s w) ((w2.alloc o).alloc o') := fun o o' => hbl.trans ((hb1 o o').mono hw1)
  have hb0 : ∀ o o', Below w.heap.size w ((w2.alloc o).alloc o') := fun o o' => (rw0_below s w).trans ((hbr o o').mono (by omega))
  have hTW : ∀ o o', Tab ((w2.alloc o).alloc o') := fun o o' => hT.below (hb0 o o')
  have hTl := hT.lt
  have hpb : ∀ o o', ((w2.alloc o).alloc o').heap[w2.heap.size]? = some o := fun o o' => by
    rw [Below.heap_alloc _ _ _ (by simp)]; exact heap_new _ _
  have hfb : ∀ o o', ((w2.alloc o).alloc o').heap[w2.heap.size + 1]? = some o' := fun o o' => by
    have h := heap_new (w2.alloc o) o'
    simpa using h
  have hcW : ∀ o o' j, j < s.size * 4 → ((w2.alloc o).alloc o').cell? ⟨w1.heap.size, j, none⟩ = some (zInstr.cells[j % 4]!) := fun o o' j hj =>
    ((hb2 o o').cell (p := ⟨w1.heap.size, j, none⟩) hlt).trans (hcell j hj)
  refine ⟨?_, ?_, ?_, hfb _ _, hb0 _ _, hlt, by simp⟩
  · constructor
    · exact cell_of_heap (hpb _ _) rfl
    · exact cell_of_heap (hpb _ _) rfl
    · exact fun j hj => ((hb1 _ _).cell (p := ⟨bs, j, none⟩) hbs).trans (hst j hj)
    · intro i hi
      rw [hcW _ _ (i * 4) (by omega), show i * 4 % 4 = 0 by omega]; simp; rfl
    · intro i hi
      rw [hcW _ _ (i * 4 + 1) (by omega), show (i * 4 + 1) % 4 = 1 by omega]; simp; rfl
    · intro i hi
      rw [hcW _ _ (i * 4 + 2) (by omega), show (i * 4 + 2) % 4 = 2 by omega]; simp; rfl
    · intro i hi
      rw [hcW _ _ (i * 4 + 3) (by omega), show (i * 4 + 3) % 4 = 3 by omega]; simp; rfl
    · intro o
      exact ((hb2 _ _).frozen (p := ⟨w1.heap.size, o, none⟩) hlt).trans (hfz o)
    · exact (hTW _ _).t0
    · exact (hTW _ _).t1
    · simp; omega
    · simp; omega
    · simp; omega
    · omega
    · omega
    · omega
  · exact ((hbr _ _).block _ (by omega)).trans (rw0_img s w)
  · exact (hbr _ _).block _ (by omega)

/-- all instructions of the first k functions. -/
def allD (s : ByteArray) : Nat → List Nat
  | 0 => []
  | k + 1 => allD s k ++ (Im.fn s k).1
theorem allD_mem (s : ByteArray) : ∀ k i, i ∈ allD s k ↔ ∃ f, f < k ∧ i ∈ (Im.fn s f).1 := by
  intro k
  induction k with
  | zero => intro i; simp [allD]
  | succ k ih =>
    intro i
    rw [allD, List.mem_append, ih]
    constructor
    · rintro (⟨f, hf, h⟩ | h)
      · exact ⟨f, by omega, h⟩
      · exact ⟨k, by omega, h⟩
    · rintro ⟨f, hf, h⟩
      by_cases he : f = k
      · right; rw [← he]; exact h
      · left; exact ⟨f, by omega, h⟩
theorem allD_has (s : ByteArray) (n f : Nat) (hf : f < n) : Has s (Im.st s f) (Im.st s (f + 1)) (allD s n) (Im.fn s f).1 where
  iff i h1 h2 := by
    rw [allD_mem]
    constructor
    · rintro ⟨g, hg, h⟩
      have hm := Im.fn_mem s g i h
      by_cases he : g = f
      · rw [← he]; exact h
      · exfalso
        by_cases hl : g < f
        · have := Im.st_le s (g + 1) f (by omega); omega
        · have := Im.st_le s (f + 1) g (by omega); omega
    · intro h; exact ⟨f, hf, h⟩
  inn i h := Im.fn_mem s f i h

set_option maxHeartbeats 400000 in
theorem read1_any (s : ByteArray) (n f bp bs bc cs bi : Nat) (D : List Nat) (w : World) (hs : s.size ≤ 200) (hn : n ≤ 6) (hf : f < n)
    (h1 : Im.st s f < Im.st s (f + 1)) (h2 : Im.st s (f + 1) ≤ s.size) (hM : Mem s n bp bs bc cs D w) (hi : w.cell? ⟨bi, 0, none⟩ = some (.string s)) :
    Calls Tryd.prog 38 #[.int .i64 f, .pointer (some ⟨bp, 0, none⟩), .pointer (some ⟨bi, 0, none⟩)] w fun e w' => DecPost s n f bp bs bc cs D w w' e := by
  have HM : Hid (Mem s n bp bs bc cs D w) := hM
  clear hM
  go_enter Tryd.func38, Tryd.ntmps38
  go_wp2_with fail
  refine (decode_any s n f bp bs bc cs D _ hs hn hf h1 h2 HM.out).mono ?_
  rintro e w1 (⟨a, rfl, b, c⟩ | ⟨p, er, a, rfl, ⟨g, rfl, b⟩, c⟩)
  · have H : Hid (DecPost s n f bp bs bc cs D w w1 (.returned .nilIface)) := Or.inl ⟨a, rfl, b, c⟩
    clear a b c
    go_wp2
    go_ret
    exact H.out
  · have H : Hid (DecPost s n f bp bs bc cs D w w1 (.returned (.iface 32 (.pointer (some ⟨g, 0, none⟩))))) := Or.inr ⟨p, _, a, rfl, ⟨g, rfl, b⟩, c⟩
    clear a b c
    go_wp2
    go_ret
    exact H.out
end Go.Proofs.YthljaemhgkepoaaDoor
