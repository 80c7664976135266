/-
  CodeE, CodeF, CodeG, ErrA: THESE TEXTS, JOINED. By the verifier of the loop 'triage'.
-/
import Derived.Test.YtbmaiioecnmopaaGreatDoorJ02
import Derived.LaidEql
import Derived.Stop.Asserts
import Derived.RowKitTokens
/-
  THE PROGRAM's SIDE (package triage): read. By the verifier of the loop 'triage'.
-/
namespace Go.Proofs.YtbmaiioecnmopaaGreatDoor
open Go.RowKit

/-- an error that is a flaw, or says in which function one lies. -/
def Wrapped (B : Nat) (w : World) (er : Value) (c p : Int) : Prop :=
  Flawed B w er c p ∨ ∃ b f fl, er = .iface 117 (.pointer (some ⟨b, 0, none⟩)) ∧ B ≤ b ∧ w.heap[b]? = some (.cells #[.int .i64 f, fl] 119 (0, 0)) ∧ Flawed B w fl c p

/-- how read ends, where it refuses. -/
def ReadBad (s : ByteArray) (w w' : World) (e : Ending) : Prop :=
  ∃ er, e = .returned (.tuple #[.agg #[.slice none 0 0, .slice none 0 0], er]) ∧ Wrapped w.heap.size w' er (Im.chk s).1 (Im.chk s).2 ∧ Below w.heap.size w w'

/-- the world in which read calls layOut: the image boxed, the result's struct laid. -/
def rw0 (s : ByteArray) (w : World) : World := (w.alloc (.cells #[.string s] 9)).alloc (.cells #[.slice none 0 0, .slice none 0 0] 64)
theorem rw0_size (s : ByteArray) (w : World) : (rw0 s w).heap.size = w.heap.size + 2 := by simp [rw0]
theorem rw0_img (s : ByteArray) (w : World) : (rw0 s w).heap[w.heap.size]? = some (.cells #[.string s] 9 (0, 0)) := by
  unfold rw0
  rw [Below.heap_alloc _ _ _ (by simp)]
  exact heap_new _ _
theorem rw0_res (s : ByteArray) (w : World) : (rw0 s w).heap[w.heap.size + 1]? = some (.cells #[.slice none 0 0, .slice none 0 0] 64 (0, 0)) := by
  have h := heap_new (w.alloc (.cells #[.string s] 9)) (.cells #[.slice none 0 0, .slice none 0 0] 64)
  simpa [rw0] using h
theorem rw0_below (s : ByteArray) (w : World) : Below w.heap.size w (rw0 s w) := ((Below.refl _ _).alloc (Nat.le_refl _) _).alloc (by simp) _
theorem cell_of_heap {w : World} {b o : Nat} {c : Array Value} {t : TypeId} {v : Value} (h : w.heap[b]? = some (.cells c t (0, 0))) (hv : c[o]? = some v) : w.cell? ⟨b, o, none⟩ = some v := by
  simp [World.cell?, h, hv]
theorem free_of_heap {w : World} {b o : Nat} {c : Array Value} {t : TypeId} (h : w.heap[b]? = some (.cells c t (0, 0))) : w.frozen? ⟨b, o, none⟩ = false := by
  simp [World.frozen?, h]
theorem Flawed.below {B B' : Nat} {w w' : World} {er : Value} {c p : Int} (h : Flawed B w er c p) (hb : Below w.heap.size w w') (hB : B' ≤ B) : Flawed B' w' er c p := by
  obtain ⟨b, rfl, h1, h2⟩ := h
  exact ⟨b, rfl, by omega, by rw [hb.block b (Array.getElem?_eq_some_iff.1 h2).1]; exact h2⟩
theorem Flawed.set {B r : Nat} {w : World} {er : Value} {c p : Int} (h : Flawed B w er c p) (hr : r < B) (o : Nat) (v : Value) : Flawed B (w.setCell ⟨r, o, none⟩ v) er c p := by
  obtain ⟨b, rfl, h1, h2⟩ := h
  exact ⟨b, rfl, h1, by rw [Below.heap_setCell _ _ _ _ (by show b ≠ r; omega)]; exact h2⟩
theorem Flawed.mono {B B' : Nat} {w : World} {er : Value} {c p : Int} (h : Flawed B w er c p) (hB : B' ≤ B) : Flawed B' w er c p := by
  obtain ⟨b, rfl, h1, h2⟩ := h
  exact ⟨b, rfl, by omega, h2⟩

/-- what the walk asks of the result's struct. -/
theorem res_cells {s : ByteArray} {w w1 : World} (hb : w1.heap[w.heap.size + 1]? = (rw0 s w).heap[w.heap.size + 1]?) :
    w1.cell? ⟨w.heap.size + 1, 0, none⟩ = some (.slice none 0 0) ∧ w1.cell? ⟨w.heap.size + 1, 1, none⟩ = some (.slice none 0 0) ∧ w1.frozen? ⟨w.heap.size + 1, 0, none⟩ = false ∧ w1.frozen? ⟨w.heap.size + 1, 1, none⟩ = false := by
  rw [rw0_res] at hb
  exact ⟨cell_of_heap hb rfl, cell_of_heap hb rfl, free_of_heap hb, free_of_heap hb⟩

theorem readbad_flaw {s : ByteArray} {w w1 : World} {er : Value} {c p : Int} (hE : Im.chk s = (c, p)) (hF : Flawed (w.heap.size + 2) w1 er c p) (hB : Below w.heap.size w w1) (x y : Value) :
    ReadBad s w ((w1.setCell ⟨w.heap.size + 1, 0, none⟩ x).setCell ⟨w.heap.size + 1, 1, none⟩ y) (.returned (.tuple #[.agg #[.slice none 0 0, .slice none 0 0], er])) := by
  refine ⟨er, rfl, Or.inl ?_, (hB.setCell (by show w.heap.size ≤ w.heap.size + 1; omega) _).setCell (by show w.heap.size ≤ w.heap.size + 1; omega) _⟩
  rw [hE]
  exact ((hF.set (by omega) _ _).set (by omega) _ _).mono (by omega)

set_option maxHeartbeats 400000 in
theorem read_long (s : ByteArray) (w : World) (hs : 200 < s.size) :
    Calls Tryz.prog 25 #[.string s] w fun e w' => ReadBad s w w' e := by
  have HE : Hid (Im.chk s = (1, 0)) := by unfold Im.chk; rw [if_pos hs]; rfl
  go_enter Tryz.func25, Tryz.ntmps25
  go_wp2_with fail
  change Calls _ _ _ (rw0 s w) _
  refine (layOut_long s _ hs).mono ?_
  rintro e w1 ⟨er, rfl, hF, hbl⟩
  rw [rw0_size] at hF hbl
  obtain ⟨r0, r1, f0, f1⟩ := res_cells (hbl.block _ (by omega))
  have HF : Hid (Flawed (w.heap.size + 2) w1 er 1 0) := hF
  have hB := (rw0_below s w).trans (hbl.mono (by omega))
  clear hbl
  obtain ⟨b, rfl, -, -⟩ := hF
  go_wp2
  exact bodyPost_ret (v := .tuple #[.agg #[.slice none 0 0, .slice none 0 0], .iface 106 (.pointer (some ⟨b, 0, none⟩))]) (by simp [results, Tryz.results25, go_sem, r0, r1]) rfl (readbad_flaw HE.out HF.out hB _ _)

set_option maxHeartbeats 400000 in
theorem read_head (s : ByteArray) (p : Nat) (w : World) (hs : s.size ≤ 200) (hp : Im.hd s = some p) :
    Calls Tryz.prog 25 #[.string s] w fun e w' => ReadBad s w w' e := by
  have HE : Hid (Im.chk s = (2, (p : Int))) := by unfold Im.chk; rw [if_neg (by omega), hp]; rfl
  have HP : Hid (Im.hd s = some p) := hp
  clear hp
  go_enter Tryz.func25, Tryz.ntmps25
  go_wp2_with fail
  change Calls _ _ _ (rw0 s w) _
  refine (layOut_all s _ hs).mono ?_
  rintro e w1 (⟨p', er, hp', rfl, hF, hbl⟩ | ⟨v, hp', _⟩)
  · obtain rfl : p = p' := by have h := HP.out; rw [hp'] at h; simpa using h.symm
    clear hp'
    rw [rw0_size] at hF hbl
    obtain ⟨r0, r1, f0, f1⟩ := res_cells (hbl.block _ (by omega))
    have HF : Hid (Flawed (w.heap.size + 2) w1 er 2 p) := hF
    have hB := (rw0_below s w).trans (hbl.mono (by omega))
    clear hbl
    obtain ⟨b, rfl, -, -⟩ := hF
    go_wp2
    exact bodyPost_ret (v := .tuple #[.agg #[.slice none 0 0, .slice none 0 0], .iface 106 (.pointer (some ⟨b, 0, none⟩))]) (by simp [results, Tryz.results25, go_sem, r0, r1]) rfl (readbad_flaw HE.out HF.out hB _ _)
  · have h := HP.out
    rw [hp'] at h
    simp at h
end Go.Proofs.YtbmaiioecnmopaaGreatDoor

/-
  THE PROGRAM's SIDE (package triage): read, of a text with a good head. By the verifier of the loop 'triage'.
-/
namespace Go.Proofs.YtbmaiioecnmopaaGreatDoor
open Go.RowKit

theorem Tryz.infoInstr : (Tryz.prog.info? 162).map (fun i => (i.zero, i.size, i.bytes)) = some (some (.agg #[.int .i64 0, .int .i64 0, .int .u8 0, .int .u8 0]), 4, 24) := by kernel_rfl
theorem Tryz.undCode : Tryz.prog.underlying 62 = some (.slice 162) := by kernel_rfl

/-- the table of the ops. -/
structure Tab (w : World) : Prop where
  t0 : ∀ op, op < 18 → w.cell? ⟨2, op * 2, none⟩ = some (.int .i64 (tk op : Nat))
  t1 : ∀ op, op < 18 → w.cell? ⟨2, op * 2 + 1, none⟩ = some (.int .i64 (Im.sz op : Nat))

theorem Tab.below {w w' : World} (h : Tab w) (hb : Below w.heap.size w w') : Tab w' where
  t0 op ho := (hb.cell (p := ⟨2, op * 2, none⟩) (World.block_lt_of_cell? w _ (h.t0 op ho))).trans (h.t0 op ho)
  t1 op ho := (hb.cell (p := ⟨2, op * 2 + 1, none⟩) (World.block_lt_of_cell? w _ (h.t1 op ho))).trans (h.t1 op ho)
theorem Tab.lt {w : World} (h : Tab w) : 2 < w.heap.size := World.block_lt_of_cell? w ⟨2, 0 * 2, none⟩ (h.t0 0 (by omega))

theorem made_at (z : Array Value) (m j : Nat) (h : j < m) : (madeCells z m).toList[j]? = some (z[j % z.size]!) := by
  simp [madeCells, h]

abbrev zInstr : Value := .agg #[.int .i64 0, .int .i64 0, .int .u8 0, .int .u8 0]

/-- the memory as read's loops begin. -/
theorem mem_start {s : ByteArray} {n bs cs : Nat} {w w1 w2 : World} (fs : Array Value) (hT : Tab w) (hbl : Below (w.heap.size + 2) (rw0 s w) w1) (hw1 : w.heap.size + 2 ≤ w1.heap.size)
    (hbs : bs < w1.heap.size) (hst : ∀ j, j ≤ n → w1.cell? ⟨bs, j, none⟩ = some (.int .i64 (Im.st s j : Nat)))
    (hown : w2.ownsRow w1.heap.size 162 4 (.slice (some ⟨w1.heap.size, 0, none⟩) s.size s.size) s.size (madeCells zInstr.cells (s.size * 4)).toList) (hgrow : w1.grownBy w2 none) :
    ∃ W, W = (w2.alloc (.cells #[.slice (some ⟨bs, 0, none⟩) (n + 1) cs, .slice (some ⟨w1.heap.size, 0, none⟩) s.size s.size] 64)).alloc (.cells fs 115) ∧
      Mem s n w2.heap.size bs w1.heap.size cs [] W ∧ W.heap[w.heap.size]? = some (.cells #[.string s] 9 (0, 0)) ∧ W.heap[w.heap.size + 1]? = (rw0 s w).heap[w.heap.size + 1]? ∧
      W.heap[w2.heap.size + 1]? = some (.cells fs 115 (0, 0)) ∧ Below w.heap.size w W ∧ w1.heap.size < w2.heap.size ∧ W.heap.size = w2.heap.size + 2 := by
  refine ⟨_, rfl, ?_⟩
  have hlt : w1.heap.size < w2.heap.size := by
    obtain ⟨_, ⟨h, _⟩ | ⟨g, cap, cur, h, _, hg, _⟩⟩ := hown
    · simp at h
    · obtain ⟨rfl, _⟩ : w1.heap.size = g ∧ s.size = cap := by simpa using h
      exact (Array.getElem?_eq_some_iff.1 hg).1
  have hfz : ∀ o, w2.frozen? ⟨w1.heap.size, o, none⟩ = false := by
    obtain ⟨_, ⟨h, _⟩ | ⟨g, cap, cur, h, _, hg, _⟩⟩ := hown
    · simp at h
    · obtain ⟨rfl, _⟩ : w1.heap.size = g ∧ s.size = cap := by simpa using h
      exact fun o => free_of_heap hg
  have hcell : ∀ j, j < s.size * 4 → w2.cell? ⟨w1.heap.size, j, none⟩ = some (zInstr.cells[j % 4]!) := by
    intro j hj
    have h := hown.cells (g := w1.heap.size) rfl j _ (made_at _ _ _ hj)
    rw [addr_add] at h
    exact h
  have hb12 : Below w1.heap.size w1 w2 := (Below.refl _ _).grown hgrow (Nat.le_refl _) (fun k h => by simp at h)
  have hb2 : ∀ o o', Below w2.heap.size w2 ((w2.alloc o).alloc o') := fun o o' => ((Below.refl _ _).alloc (Nat.le_refl _) _).alloc (by simp) _
  have hb1 : ∀ o o', Below w1.heap.size w1 ((w2.alloc o).alloc o') := fun o o' => hb12.trans ((hb2 o o').mono (by omega))
  have hbr : ∀ o o', Below (w.heap.size + 2) (rw0 s w) ((w2.alloc o).alloc o') := fun o o' => hbl.trans ((hb1 o o').mono hw1)
  have hb0 : ∀ o o', Below w.heap.size w ((w2.alloc o).alloc o') := fun o o' => (rw0_below s w).trans ((hbr o o').mono (by omega))
  have hTW : ∀ o o', Tab ((w2.alloc o).alloc o') := fun o o' => hT.below (hb0 o o')
  have hTl := hT.lt
  have hpb : ∀ o o', ((w2.alloc o).alloc o').heap[w2.heap.size]? = some o := fun o o' => by
    rw [Below.heap_alloc _ _ _ (by simp)]; exact heap_new _ _
  have hfb : ∀ o o', ((w2.alloc o).alloc o').heap[w2.heap.size + 1]? = some o' := fun o o' => by
    have h := heap_new (w2.alloc o) o'
    simpa using h
  have hcW : ∀ o o' j, j < s.size * 4 → ((w2.alloc o).alloc o').cell? ⟨w1.heap.size, j, none⟩ = some (zInstr.cells[j % 4]!) := fun o o' j hj =>
    ((hb2 o o').cell (p := ⟨w1.heap.size, j, none⟩) hlt).trans (hcell j hj)
  refine ⟨?_, ?_, ?_, hfb _ _, hb0 _ _, hlt, by simp⟩
  · constructor
    · exact cell_of_heap (hpb _ _) rfl
    · exact cell_of_heap (hpb _ _) rfl
    · exact fun j hj => ((hb1 _ _).cell (p := ⟨bs, j, none⟩) hbs).trans (hst j hj)
    · intro i hi
      rw [hcW _ _ (i * 4) (by omega), show i * 4 % 4 = 0 by omega]; simp; rfl
    · intro i hi
      rw [hcW _ _ (i * 4 + 1) (by omega), show (i * 4 + 1) % 4 = 1 by omega]; simp; rfl
    · intro i hi
      rw [hcW _ _ (i * 4 + 2) (by omega), show (i * 4 + 2) % 4 = 2 by omega]; simp; rfl
    · intro i hi
      rw [hcW _ _ (i * 4 + 3) (by omega), show (i * 4 + 3) % 4 = 3 by omega]; simp; rfl
    · intro o
      exact ((hb2 _ _).frozen (p := ⟨w1.heap.size, o, none⟩) hlt).trans (hfz o)
    · exact (hTW _ _).t0
    · exact (hTW _ _).t1
    · simp; omega
    · simp; omega
    · simp; omega
    · omega
    · omega
    · omega
  · exact ((hbr _ _).block _ (by omega)).trans (rw0_img s w)
  · exact (hbr _ _).block _ (by omega)

/-- all instructions of the first k functions. -/
def allD (s : ByteArray) : Nat → List Nat
  | 0 => []
  | k + 1 => allD s k ++ (Im.fn s k).1
theorem allD_mem (s : ByteArray) : ∀ k i, i ∈ allD s k ↔ ∃ f, f < k ∧ i ∈ (Im.fn s f).1 := by
  intro k
  induction k with
  | zero => intro i; simp [allD]
  | succ k ih =>
    intro i
    rw [allD, List.mem_append, ih]
    constructor
    · rintro (⟨f, hf, h⟩ | h)
      · exact ⟨f, by omega, h⟩
      · exact ⟨k, by omega, h⟩
    · rintro ⟨f, hf, h⟩
      by_cases he : f = k
      · right; rw [← he]; exact h
      · left; exact ⟨f, by omega, h⟩
theorem allD_has (s : ByteArray) (n f : Nat) (hf : f < n) : Has s (Im.st s f) (Im.st s (f + 1)) (allD s n) (Im.fn s f).1 where
  iff i h1 h2 := by
    rw [allD_mem]
    constructor
    · rintro ⟨g, hg, h⟩
      have hm := Im.fn_mem s g i h
      by_cases he : g = f
      · rw [← he]; exact h
      · exfalso
        by_cases hl : g < f
        · have := Im.st_le s (g + 1) f (by omega); omega
        · have := Im.st_le s (f + 1) g (by omega); omega
    · intro h; exact ⟨f, hf, h⟩
  inn i h := Im.fn_mem s f i h

set_option maxHeartbeats 400000 in
theorem read1_any (s : ByteArray) (n f bp bs bc cs bi : Nat) (D : List Nat) (w : World) (hs : s.size ≤ 200) (hn : n ≤ 6) (hf : f < n)
    (h1 : Im.st s f < Im.st s (f + 1)) (h2 : Im.st s (f + 1) ≤ s.size) (hM : Mem s n bp bs bc cs D w) (hi : w.cell? ⟨bi, 0, none⟩ = some (.string s)) :
    Calls Tryz.prog 42 #[.int .i64 f, .pointer (some ⟨bp, 0, none⟩), .pointer (some ⟨bi, 0, none⟩)] w fun e w' => DecPost s n f bp bs bc cs D w w' e := by
  have HM : Hid (Mem s n bp bs bc cs D w) := hM
  clear hM
  go_enter Tryz.func42, Tryz.ntmps42
  go_wp2_with fail
  refine (decode_any s n f bp bs bc cs D _ hs hn hf h1 h2 HM.out).mono ?_
  rintro e w1 (⟨a, rfl, b, c⟩ | ⟨p, er, a, rfl, ⟨g, rfl, b⟩, c⟩)
  · have H : Hid (DecPost s n f bp bs bc cs D w w1 (.returned .nilIface)) := Or.inl ⟨a, rfl, b, c⟩
    clear a b c
    go_wp2
    go_ret
    exact H.out
  · have H : Hid (DecPost s n f bp bs bc cs D w w1 (.returned (.iface 106 (.pointer (some ⟨g, 0, none⟩))))) := Or.inr ⟨p, _, a, rfl, ⟨g, rfl, b⟩, c⟩
    clear a b c
    go_wp2
    go_ret
    exact H.out
end Go.Proofs.YtbmaiioecnmopaaGreatDoor

/-
  THE PROGRAM's SIDE (package triage): read, of a text with a good head: the three looks. By the verifier of the loop 'triage'.
-/
namespace Go.Proofs.YtbmaiioecnmopaaGreatDoor
open Go.RowKit

/-- how read ends, where it takes the image. -/
def ReadGood (s : ByteArray) (n : Nat) (w w' : World) (e : Ending) : Prop :=
  ∃ bp bs bc cs, e = .returned (.tuple #[.agg #[.slice (some ⟨bs, 0, none⟩) (n + 1) cs, .slice (some ⟨bc, 0, none⟩) s.size s.size], .nilIface]) ∧ w.heap.size ≤ bs ∧ w.heap.size ≤ bc ∧ Mem s n bp bs bc cs (allD s n) w' ∧ Below w.heap.size w w' ∧ n + 1 ≤ cs ∧ cs ≤ maxLen
def ReadPost (s : ByteArray) (w w' : World) (e : Ending) : Prop :=
  ((Im.chk s).1 ≠ 0 ∧ ReadBad s w w' e) ∨ (Im.chk s = (0, 0) ∧ ReadGood s (Im.bt s 0) w w' e)

theorem readbad_wrap {s : ByteArray} {N f z : Nat} {w w1 : World} {fl : Value} {c p : Int} (hN : w.heap.size = N) (hE : Im.chk s = (c, p)) (hc : c ≠ 0) (hF : Flawed (N + 2) w1 fl c p) (hB : Below N w w1) (hz : w1.heap.size = z) (hz2 : N + 2 ≤ z) (x y : Value) :
    ReadPost s w (((w1.setCell ⟨N + 1, 0, none⟩ x).setCell ⟨N + 1, 1, none⟩ y).alloc (.cells #[.int .i64 f, fl] 119)) (.returned (.tuple #[.agg #[.slice none 0 0, .slice none 0 0], .iface 117 (.pointer (some ⟨z, 0, none⟩))])) := by
  subst hN hz
  have hs : ((w1.setCell ⟨w.heap.size + 1, 0, none⟩ x).setCell ⟨w.heap.size + 1, 1, none⟩ y).heap.size = w1.heap.size := by simp
  have hb := (hB.setCell (p := ⟨w.heap.size + 1, 0, none⟩) (by show w.heap.size ≤ w.heap.size + 1; omega) x).setCell (p := ⟨w.heap.size + 1, 1, none⟩) (by show w.heap.size ≤ w.heap.size + 1; omega) y
  have hf := (hF.set (r := w.heap.size + 1) (by omega) 0 x).set (r := w.heap.size + 1) (by omega) 1 y
  generalize (w1.setCell ⟨w.heap.size + 1, 0, none⟩ x).setCell ⟨w.heap.size + 1, 1, none⟩ y = w2 at *
  refine Or.inl ⟨by rw [hE]; exact hc, _, rfl, Or.inr ⟨w1.heap.size, f, fl, rfl, by omega, ?_, ?_⟩, hb.alloc (by omega) _⟩
  · rw [← hs]; exact heap_new _ _
  · rw [hE]
    exact (hf.below ((Below.refl _ _).alloc (Nat.le_refl _) _) (Nat.le_refl _)).mono (by omega)

theorem Mem.set {s : ByteArray} {n bp bs bc cs r o : Nat} {D : List Nat} {w : World} {v : Value} (hM : Mem s n bp bs bc cs D w) (h1 : r ≠ bp) (h2 : r ≠ bs) (h3 : r ≠ bc) (h4 : r ≠ 2) : Mem s n bp bs bc cs D (w.setCell ⟨r, o, none⟩ v) := by
  have hc : ∀ b o', r ≠ b → (w.setCell ⟨r, o, none⟩ v).cell? ⟨b, o', none⟩ = w.cell? ⟨b, o', none⟩ := fun b o' h => World.cell?_of_block (Below.heap_setCell _ _ _ _ (fun e => h e.symm))
  have hf : ∀ b o', r ≠ b → (w.setCell ⟨r, o, none⟩ v).frozen? ⟨b, o', none⟩ = w.frozen? ⟨b, o', none⟩ := fun b o' h => World.frozen?_of_block (Below.heap_setCell _ _ _ _ (fun e => h e.symm))
  exact { starts := (hc _ _ h1).trans hM.starts, code := (hc _ _ h1).trans hM.code, st := fun j hj => (hc _ _ h2).trans (hM.st j hj), c0 := fun i hi => (hc _ _ h3).trans (hM.c0 i hi), c1 := fun i hi => (hc _ _ h3).trans (hM.c1 i hi), c2 := fun i hi => (hc _ _ h3).trans (hM.c2 i hi), c3 := fun i hi => (hc _ _ h3).trans (hM.c3 i hi), frz := fun o' => (hf _ _ h3).trans (hM.frz o'), tab0 := fun op h => (hc _ _ h4).trans (hM.tab0 op h), tab1 := fun op h => (hc _ _ h4).trans (hM.tab1 op h), ltp := by simpa using hM.ltp, lts := by simpa using hM.lts, ltc := by simpa using hM.ltc, nep := hM.nep, nes := hM.nes, net := hM.net }

/-- what the loops keep of the world in which they began. -/
structure Kept (s : ByteArray) (N bp bc : Nat) (fs : Array Value) (w W wr : World) : Prop where
  gr : W.grownBy wr (some bc)
  img : wr.cell? ⟨N, 0, none⟩ = some (.string s)
  r0 : wr.cell? ⟨N + 1, 0, none⟩ = some (.slice none 0 0)
  r1 : wr.cell? ⟨N + 1, 1, none⟩ = some (.slice none 0 0)
  z0 : wr.frozen? ⟨N + 1, 0, none⟩ = false
  z1 : wr.frozen? ⟨N + 1, 1, none⟩ = false
  fns : ∀ j v, fs[j]? = some v → wr.cell? ⟨bp + 1, j, none⟩ = some v
  bel : Below N w wr
  sz : bp + 2 ≤ wr.heap.size

theorem kept_of {s : ByteArray} {N bp bc : Nat} {fs : Array Value} {w W : World} (hN : w.heap.size = N) (hbc : N + 2 ≤ bc) (hbp : bc < bp) (h1 : W.heap[N]? = some (.cells #[.string s] 9 (0, 0))) (h2 : W.heap[N + 1]? = (rw0 s w).heap[w.heap.size + 1]?)
    (h3 : W.heap[bp + 1]? = some (.cells fs 115 (0, 0))) (h4 : Below N w W) (h5 : W.heap.size = bp + 2) : ∀ wr, W.grownBy wr (some bc) → Kept s N bp bc fs w W wr := by
  intro wr hg
  have b1 : wr.heap[N]? = some (.cells #[.string s] 9 (0, 0)) := (hg.block N (by omega) (by simp; omega)).trans h1
  have b2 : wr.heap[N + 1]? = (rw0 s w).heap[w.heap.size + 1]? := (hg.block (N + 1) (by omega) (by simp; omega)).trans h2
  have b3 : wr.heap[bp + 1]? = some (.cells fs 115 (0, 0)) := (hg.block (bp + 1) (by omega) (by simp; omega)).trans h3
  subst hN
  obtain ⟨r0, r1, f0, f1⟩ := res_cells b2
  exact ⟨hg, cell_of_heap b1 rfl, r0, r1, f0, f1, fun j v hv => cell_of_heap b3 hv, h4.grown hg (by omega) (fun k hk => by simp at hk; omega), by have := hg.size; omega⟩

/-- where read stands behind r of its three looks. -/
def RdSt (s : ByteArray) (n bp bs bc cs r : Nat) (wr : World) : Prop :=
  (r = 0 ∧ Mem s n bp bs bc cs [] wr) ∨ (1 ≤ r ∧ Mem s n bp bs bc cs (allD s n) wr ∧ Im.firstF (Im.gOp s) n 0 = none ∧ (2 ≤ r → Im.firstF (Im.gJump s n) n 0 = none) ∧ (3 ≤ r → Im.firstF (Im.gFall s) n 0 = none))
theorem gr_below {b : Nat} {w w1 w2 : World} (h : w.grownBy w1 (some b)) (k : Below w1.heap.size w1 w2) : w.grownBy w2 (some b) :=
  gr_trans h ⟨k.os, k.tape, k.output, k.size, fun j hj _ => k.block j hj⟩
theorem Flawed.ge {B B' : Nat} {w : World} {er : Value} {c p : Int} (h : Flawed B w er c p) (hB : B' ≤ B) : Flawed B' w er c p := h.mono hB

set_option maxHeartbeats 8000000 in
set_option maxRecDepth 100000 in
theorem read_rest (s : ByteArray) (w : World) (hs : s.size ≤ 200) (hp : Im.hd s = none) (hT : Tab w) :
    Calls Tryz.prog 25 #[.string s] w fun e w' => ReadPost s w w' e := by
  obtain ⟨i0, hi, hz0, hz1, hz2⟩ := info_parts Tryz.infoInstr
  have HP : Hid (Im.hd s = none) := hp
  obtain ⟨hn1, hn6, _, _, _⟩ := Im.hd_none s hp
  have HST : Hid (∀ f, f < Im.bt s 0 → Im.st s f < Im.st s (f + 1) ∧ Im.st s (f + 1) ≤ s.size) := Im.st_in s hp
  have HCHK : Hid (Im.chk s = match Im.firstF (Im.gOp s) (Im.bt s 0) 0 with | some p => (3, (p : Int)) | none => match Im.firstF (Im.gJump s (Im.bt s 0)) (Im.bt s 0) 0 with | some p => (4, (p : Int)) | none => match Im.firstF (Im.gFall s) (Im.bt s 0) 0 with | some p => (5, (p : Int)) | none => (0, 0)) := by
    show Im.chk s = _; unfold Im.chk; rw [if_neg (by omega), hp]; rfl
  obtain ⟨n, HN⟩ : ∃ n, Hid (Im.bt s 0 = n) := ⟨_, rfl⟩
  rw [HN.out] at hn1 hn6 HST HCHK
  clear hp
  go_enter Tryz.func25, Tryz.ntmps25
  go_wp2_with fail
  change Calls _ _ _ (rw0 s w) _
  refine (layOut_all s _ hs).mono ?_
  rw [HN.out]
  rintro e w1 (⟨p', er, hp', _⟩ | ⟨v, hp', rfl, hown, hbl⟩)
  · have h := HP.out
    rw [hp'] at h
    simp at h
  rw [rw0_size] at hown hbl
  have hw1 : w.heap.size + 2 ≤ w1.heap.size := by have := hbl.size; rw [rw0_size] at this; exact this
  have him : w1.cell? ⟨w.heap.size, 0, none⟩ = some (.string s) := cell_of_heap ((hbl.block _ (by omega)).trans (rw0_img s w)) rfl
  have hcells := fun g (hg : v.ownBlock = some g) => hown.cells hg
  obtain ⟨hl, ⟨_, h0⟩ | ⟨bs, cs, cur, rfl, hbs0, hbs1, hncap, hcap, hcur, htake⟩⟩ := hown
  · omega
  have hbs : bs < w1.heap.size := (Array.getElem?_eq_some_iff.1 hbs1).1
  have HSTC : Hid (∀ j, j ≤ n → w1.cell? ⟨bs, j, none⟩ = some (.int .i64 (Im.st s j : Nat))) := by
    intro j hj
    have h := hcells bs rfl j (.int .i64 (Im.st s j : Nat)) (by
      have hg : ∀ m j, j < m → (stL s m)[j]? = some (Im.st s j) := by
        intro m
        induction m with
        | zero => intro j h; omega
        | succ m ih =>
          intro j h
          rw [stL]
          by_cases he : j = m
          · rw [he, List.getElem?_append_right (by rw [stL_len]; omega), stL_len]; simp
          · rw [List.getElem?_append_left (by rw [stL_len]; omega)]; exact ih j (by omega)
      simp [ints, hg (n + 1) j (by omega)])
    rw [addr_add] at h
    exact h
  clear hcells hl hbs1 hcur htake cur
  go_wp2_with (at_make; refine wpList_make_full _ rfl _ _ 62 rfl w1.heap.size 162 i0 (.agg #[.int .i64 0, .int .i64 0, .int .u8 0, .int .u8 0]) 4 Tryz.undCode hi hz0 hz1 _ _ _ _ s.size rfl rfl (by omega) (by omega) (by rw [hz2]; omega) (by unfold maxLen; omega) (by simp) ?_)
  intro w2 hown2 hgrow
  obtain ⟨W, hW, hM, hb1, hb2, hb3, hb4, hb5, hb6⟩ := mem_start (cs := cs) #[.func (.func 42) #[] #[.pointer (some ⟨w2.heap.size, 0, none⟩), .pointer (some ⟨w.heap.size, 0, none⟩)], .func (.func 44) #[.pointer (some ⟨w2.heap.size, 0, none⟩)] #[], .func (.func 45) #[.pointer (some ⟨w2.heap.size, 0, none⟩)] #[]] hT hbl hw1 hbs HSTC.out hown2 hgrow
  have HW : Hid (W = _) := hW
  clear hW
  clear hown2 hgrow him
  go_wp2
  rw [← HW.out]
  have hK := kept_of rfl hw1 hb5 hb1 hb2 hb3 hb4 hb6
  have htl := hT.lt
  clear HW hb1 hb2 hb3 hb4 hb6 HSTC hbl hT
  generalize w2.heap.size = bp at *
  generalize hbce : w1.heap.size = bc at *
  obtain ⟨N, hN⟩ : ∃ N, w.heap.size = N := ⟨_, rfl⟩
  rw [hN] at hw1 hbs0 hK htl ⊢
  have HNN : Hid (w.heap.size = N) := hN
  clear hN hbce hi hz0 hz1 hz2
  have HK : Hid (∀ wr, W.grownBy wr (some bc) → Kept s N bp bc #[.func (.func 42) #[] #[.pointer (some ⟨bp, 0, none⟩), .pointer (some ⟨N, 0, none⟩)], .func (.func 44) #[.pointer (some ⟨bp, 0, none⟩)] #[], .func (.func 45) #[.pointer (some ⟨bp, 0, none⟩)] #[]] w W wr) := hK
  clear hK
  go_loopw [32] (fun i wr => ∃ r : Nat, i = .int .i64 r ∧ r ≤ 3 ∧ RdSt s n bp bs bc cs r wr ∧ W.grownBy wr (some bc)) (fun i _ => 3 - (intOf i).toNat)
  case atStart => exact ⟨0, rfl, by omega, Or.inl ⟨rfl, hM⟩, World.grownBy.refl _ _⟩
  case round =>
    obtain ⟨r, rfl, hr, hst, hgr⟩ := hrel
    have hk := HK.out wr hgr
    rcases (show r = 0 ∨ r = 1 ∨ r = 2 ∨ r = 3 by omega) with rfl | rfl | rfl | rfl
    · obtain ⟨_, hM0⟩ | ⟨h, _⟩ := hst
      · have hfc := hk.fns 0 _ rfl
        have HM0 : Hid (Mem s n bp bs bc cs [] wr) := hM0
        clear hM0 hM hk
        go_wp2_with fail
        refine (functions_any s n bp bs bc cs [] _ hn6 HM0.out).mono ?_
        rintro e w' ⟨rfl, rfl⟩
        go_wp2
        go_loopw [37] (fun i wr => ∃ f : Nat, i = .int .i64 f ∧ f ≤ n ∧ Hid (Im.firstF (Im.gOp s) n 0 = Im.firstF (Im.gOp s) (n - f) f) ∧ Mem s n bp bs bc cs (allD s f) wr ∧ W.grownBy wr (some bc)) (fun i _ => n - (intOf i).toNat)
        case atStart => exact ⟨0, rfl, by omega, rfl, HM0.out, hgr⟩
        case round =>
          clear hgr hfc
          obtain ⟨f, rfl, hf, HR, hM2, hgr⟩ := hrel
          have hk := HK.out wr hgr
          by_cases hlt : f < n
          · obtain ⟨HS1, HS2⟩ := HST.out f hlt
            have him := hk.img
            go_wp2_with fail
            refine (read1_any s n f bp bs bc cs N (allD s f) _ hs hn6 hlt HS1 HS2 hM2 him).mono ?_
            rintro e w3 (⟨hg, rfl, hM3, hgr2⟩ | ⟨p, er, hg, rfl, hF, hgr2⟩)
            · have HE : Hid (Im.firstF (Im.gOp s) n 0 = Im.firstF (Im.gOp s) (n - (f + 1)) (f + 1)) := by
                show Im.firstF (Im.gOp s) n 0 = _
                rw [HR.out, Im.firstF_miss _ n f hlt hg]
              have hgr3 := gr_trans hgr hgr2
              clear HCHK HR HST hg hk
              go_wp2
              go_roundw
              case rel => exact ⟨f + 1, by go_num, by omega, HE, hM3, hgr3⟩
              case measure => simp [intOf]; omega
            · have hgr3 := gr_trans hgr hgr2
              have HE : Hid (Im.chk s = (3, (p : Int))) := by
                show Im.chk s = _
                rw [HCHK.out, HR.out, Im.firstF_hit _ n f p hlt hg]
              have hk3 := HK.out w3 hgr3
              have r0 := hk3.r0
              have r1 := hk3.r1
              have z0 := hk3.z0
              have z1 := hk3.z1
              have hsz : N + 1 < w3.heap.size := by have := hk3.sz; omega
              have HF : Hid (Flawed (N + 2) w3 er 3 p) := hF.ge (by have := hk.sz; omega)
              have hB3 := hk3.bel
              have hz3 : N + 2 ≤ w3.heap.size := by omega
              clear HCHK HR HST hk3 hg hk HK
              obtain ⟨b, rfl, -, -⟩ := hF
              go_wp2
              exact bodyPost_ret (v := .tuple #[.agg #[.slice none 0 0, .slice none 0 0], .iface 117 (.pointer (some ⟨w3.heap.size, 0, none⟩))]) (by simp [results, Tryz.results25, go_sem, r0, r1, hsz]) rfl (readbad_wrap HNN.out HE.out (by decide) HF.out hB3 rfl hz3 _ _)
          · have HOPS : Im.firstF (Im.gOp s) n 0 = none := by
              rw [HR.out, Im.firstF_done _ n f (by omega)]
            have hfe : f = n := by omega
            have hM4 : Mem s n bp bs bc cs (allD s n) wr := by have h := hM2; rw [show allD s f = allD s n by rw [hfe]] at h; exact h
            have HST1 : Hid (RdSt s n bp bs bc cs 1 wr) := Or.inr ⟨by omega, hM4, HOPS, fun h => by omega, fun h => by omega⟩
            clear HCHK HR HST hfe HOPS hM4 hk HK
            go_wp2
            go_roundw
            case rel => exact ⟨1, by go_num, by omega, HST1.out, hgr⟩
            case measure => simp [intOf]
      · omega
    · obtain ⟨h, _⟩ | ⟨_, hM0, hops, hjs, hfs⟩ := hst
      · simp at h
      · have HOPS : Hid (Im.firstF (Im.gOp s) n 0 = none) := hops
        have HALL : Hid (∀ k, k < n → Im.gOp s k = none) := fun k hk => Im.firstF_none _ n 0 HOPS.out k (by omega) (by omega)
        have HJS : Hid (True) := trivial
        have hfc := hk.fns 1 _ rfl
        have HM0 : Hid (Mem s n bp bs bc cs (allD s n) wr) := hM0
        clear hM0 hM hk hops hjs hfs
        go_wp2_with fail
        refine (functions_any s n bp bs bc cs (allD s n) _ hn6 HM0.out).mono ?_
        rintro e w' ⟨rfl, rfl⟩
        go_wp2
        go_loopw [37] (fun i wr => ∃ f : Nat, i = .int .i64 f ∧ f ≤ n ∧ Hid (Im.firstF (Im.gJump s n) n 0 = Im.firstF (Im.gJump s n) (n - f) f) ∧ Mem s n bp bs bc cs (allD s n) wr ∧ W.grownBy wr (some bc)) (fun i _ => n - (intOf i).toNat)
        case atStart => exact ⟨0, rfl, by omega, rfl, HM0.out, hgr⟩
        case round =>
          clear hgr hfc
          obtain ⟨f, rfl, hf, HR, hM2, hgr⟩ := hrel
          have hk := HK.out wr hgr
          by_cases hlt : f < n
          · obtain ⟨HS1, HS2⟩ := HST.out f hlt
            have hrun : Im.run s (Im.st s (f + 1)) (Im.st s f) = ((Im.fn s f).1, none) := by
              have h : (Im.fn s f).2 = none := HALL.out f hlt
              show Im.fn s f = _
              rw [← h]
            have HRUN : Hid (Im.run s (Im.st s (f + 1)) (Im.st s f) = ((Im.fn s f).1, none)) := hrun
            clear hrun
            go_wp2_with fail
            refine (targets_any s n f bp bs bc cs (Im.st s f) (Im.st s (f + 1)) (allD s n) (Im.fn s f).1 _ hs hn6 hlt rfl rfl HS2 (by omega) HRUN.out (allD_has s n f hlt) hM2).mono ?_
            rintro e w3 (⟨hg, rfl, hgr2⟩ | ⟨p, er, hg, rfl, hF, hgr2⟩)
            · have hg : Im.gJump s n f = none := hg
              have HE : Hid (Im.firstF (Im.gJump s n) n 0 = Im.firstF (Im.gJump s n) (n - (f + 1)) (f + 1)) := by
                show Im.firstF (Im.gJump s n) n 0 = _
                rw [HR.out, Im.firstF_miss _ n f hlt hg]
              have hgr3 := gr_below hgr hgr2
              have hM3 := hM2.below hgr2
              clear HCHK HR HST hg hk
              go_wp2
              go_roundw
              case rel => exact ⟨f + 1, by go_num, by omega, HE, hM3, hgr3⟩
              case measure => simp [intOf]; omega
            · have hg : Im.gJump s n f = some p := hg
              have hgr3 := gr_below hgr hgr2
              have HE : Hid (Im.chk s = (4, (p : Int))) := by
                show Im.chk s = _
                rw [HCHK.out, HOPS.out, HR.out, Im.firstF_hit _ n f p hlt hg]
              have hk3 := HK.out w3 hgr3
              have r0 := hk3.r0
              have r1 := hk3.r1
              have z0 := hk3.z0
              have z1 := hk3.z1
              have hsz : N + 1 < w3.heap.size := by have := hk3.sz; omega
              have HF : Hid (Flawed (N + 2) w3 er 4 p) := hF.ge (by have := hk.sz; omega)
              have hB3 := hk3.bel
              have hz3 : N + 2 ≤ w3.heap.size := by omega
              clear HCHK HR HST hk3 hg hk HK
              obtain ⟨b, rfl, -, -⟩ := hF
              go_wp2
              exact bodyPost_ret (v := .tuple #[.agg #[.slice none 0 0, .slice none 0 0], .iface 117 (.pointer (some ⟨w3.heap.size, 0, none⟩))]) (by simp [results, Tryz.results25, go_sem, r0, r1, hsz]) rfl (readbad_wrap HNN.out HE.out (by decide) HF.out hB3 rfl hz3 _ _)
          · have HDONE : Im.firstF (Im.gJump s n) n 0 = none := by
              rw [HR.out, Im.firstF_done _ n f (by omega)]
            have HST1 : Hid (RdSt s n bp bs bc cs 2 wr) := Or.inr ⟨by omega, hM2, HOPS.out, fun _ => HDONE, fun h => by omega⟩
            clear HCHK HR HST HDONE hk HK
            go_wp2
            go_roundw
            case rel => exact ⟨2, by go_num, by omega, HST1.out, hgr⟩
            case measure => simp [intOf]
    · obtain ⟨h, _⟩ | ⟨_, hM0, hops, hjs, hfs⟩ := hst
      · simp at h
      · have HOPS : Hid (Im.firstF (Im.gOp s) n 0 = none) := hops
        have HALL : Hid (∀ k, k < n → Im.gOp s k = none) := fun k hk => Im.firstF_none _ n 0 HOPS.out k (by omega) (by omega)
        have HJS : Hid (Im.firstF (Im.gJump s n) n 0 = none) := hjs (by omega)
        have hfc := hk.fns 2 _ rfl
        have HM0 : Hid (Mem s n bp bs bc cs (allD s n) wr) := hM0
        clear hM0 hM hk hops hjs hfs
        go_wp2_with fail
        refine (functions_any s n bp bs bc cs (allD s n) _ hn6 HM0.out).mono ?_
        rintro e w' ⟨rfl, rfl⟩
        go_wp2
        go_loopw [37] (fun i wr => ∃ f : Nat, i = .int .i64 f ∧ f ≤ n ∧ Hid (Im.firstF (Im.gFall s) n 0 = Im.firstF (Im.gFall s) (n - f) f) ∧ Mem s n bp bs bc cs (allD s n) wr ∧ W.grownBy wr (some bc)) (fun i _ => n - (intOf i).toNat)
        case atStart => exact ⟨0, rfl, by omega, rfl, HM0.out, hgr⟩
        case round =>
          clear hgr hfc
          obtain ⟨f, rfl, hf, HR, hM2, hgr⟩ := hrel
          have hk := HK.out wr hgr
          by_cases hlt : f < n
          · obtain ⟨HS1, HS2⟩ := HST.out f hlt
            have hrun : Im.run s (Im.st s (f + 1)) (Im.st s f) = ((Im.fn s f).1, none) := by
              have h : (Im.fn s f).2 = none := HALL.out f hlt
              show Im.fn s f = _
              rw [← h]
            have HRUN : Hid (Im.run s (Im.st s (f + 1)) (Im.st s f) = ((Im.fn s f).1, none)) := hrun
            clear hrun
            go_wp2_with fail
            refine (last_any s n f bp bs bc cs (Im.st s f) (Im.st s (f + 1)) (allD s n) (Im.fn s f).1 _ hs hn6 hlt rfl rfl HS2 HS1 HRUN.out (allD_has s n f hlt) hM2).mono ?_
            rintro e w3 (⟨hg, rfl, hgr2⟩ | ⟨p, er, hg, rfl, hF, hgr2⟩)
            · have hg : Im.gFall s f = none := hg
              have HE : Hid (Im.firstF (Im.gFall s) n 0 = Im.firstF (Im.gFall s) (n - (f + 1)) (f + 1)) := by
                show Im.firstF (Im.gFall s) n 0 = _
                rw [HR.out, Im.firstF_miss _ n f hlt hg]
              have hgr3 := gr_below hgr hgr2
              have hM3 := hM2.below hgr2
              clear HCHK HR HST hg hk
              go_wp2
              go_roundw
              case rel => exact ⟨f + 1, by go_num, by omega, HE, hM3, hgr3⟩
              case measure => simp [intOf]; omega
            · have hg : Im.gFall s f = some p := hg
              have hgr3 := gr_below hgr hgr2
              have HE : Hid (Im.chk s = (5, (p : Int))) := by
                show Im.chk s = _
                rw [HCHK.out, HOPS.out, HJS.out, HR.out, Im.firstF_hit _ n f p hlt hg]
              have hk3 := HK.out w3 hgr3
              have r0 := hk3.r0
              have r1 := hk3.r1
              have z0 := hk3.z0
              have z1 := hk3.z1
              have hsz : N + 1 < w3.heap.size := by have := hk3.sz; omega
              have HF : Hid (Flawed (N + 2) w3 er 5 p) := hF.ge (by have := hk.sz; omega)
              have hB3 := hk3.bel
              have hz3 : N + 2 ≤ w3.heap.size := by omega
              clear HCHK HR HST hk3 hg hk HK
              obtain ⟨b, rfl, -, -⟩ := hF
              go_wp2
              exact bodyPost_ret (v := .tuple #[.agg #[.slice none 0 0, .slice none 0 0], .iface 117 (.pointer (some ⟨w3.heap.size, 0, none⟩))]) (by simp [results, Tryz.results25, go_sem, r0, r1, hsz]) rfl (readbad_wrap HNN.out HE.out (by decide) HF.out hB3 rfl hz3 _ _)
          · have HDONE : Im.firstF (Im.gFall s) n 0 = none := by
              rw [HR.out, Im.firstF_done _ n f (by omega)]
            have HST1 : Hid (RdSt s n bp bs bc cs 3 wr) := Or.inr ⟨by omega, hM2, HOPS.out, fun _ => HJS.out, fun _ => HDONE⟩
            clear HCHK HR HST HDONE hk HK
            go_wp2
            go_roundw
            case rel => exact ⟨3, by go_num, by omega, HST1.out, hgr⟩
            case measure => simp [intOf]
    · obtain ⟨h, _⟩ | ⟨_, hM0, hops, hjs, hfs⟩ := hst
      · simp at h
      · have HE : Hid (Im.chk s = (0, 0)) := by
          show Im.chk s = (0, 0)
          rw [HCHK.out, hops, hjs (by omega), hfs (by omega)]
        have m1 := hM0.starts
        have m2 := hM0.code
        have r0 := hk.r0
        have r1 := hk.r1
        have z0 := hk.z0
        have z1 := hk.z1
        have hB3 := hk.bel
        have HG : Hid (∀ x y, ReadPost s w ((wr.setCell ⟨N + 1, 0, none⟩ x).setCell ⟨N + 1, 1, none⟩ y) (.returned (.tuple #[.agg #[.slice (some ⟨bs, 0, none⟩) (n + 1) cs, .slice (some ⟨bc, 0, none⟩) s.size s.size], .nilIface]))) := by
          intro x y
          refine Or.inr ⟨HE.out, bp, bs, bc, cs, by rw [HN.out], by rw [HNN.out]; omega, by rw [HNN.out]; omega, ?_, ?_, by rw [HN.out]; exact hncap, hcap⟩
          · rw [HN.out]
            exact (hM0.set (by omega) (by omega) (by omega) (by omega)).set (by omega) (by omega) (by omega) (by omega)
          · rw [HNN.out]
            exact (hB3.setCell (by show N ≤ N + 1; omega) _).setCell (by show N ≤ N + 1; omega) _
        clear HCHK HST HK hops hjs hfs hk
        go_wp2
        exact bodyPost_ret (v := .tuple #[.agg #[.slice (some ⟨bs, 0, none⟩) (n + 1) cs, .slice (some ⟨bc, 0, none⟩) s.size s.size], .nilIface]) (by simp [results, Tryz.results25, go_sem, r0, r1]) rfl (HG.out _ _)
end Go.Proofs.YtbmaiioecnmopaaGreatDoor

/-
  errors.Is BY ITS CONTRACTS, at the program's own errors: nil; a *Flaw (it unwraps to Broken); an *inFunction (it unwraps to a *Flaw). Go's own text is walked. After the guide's worked SentryIs. By the verifier of the loop 'triage'.
-/
namespace Go.Proofs.YtbmaiioecnmopaaGreatDoor
open Go.RowKit Go.Extern.Stop Go.Stop Go.Extern

/-- what the model says of the method Comparable. -/
def cmpF (t : TypeId) : Sem Value := do Rtype.noPackHeld "Comparable" t; pure (.bool (← typeInfo t).comparable)
theorem Tryz.isTypeOf (v : Value) (w : World) : (Extern.ReflectliteType.typeOf #[.iface 225 v]).run Tryz.prog w = .ok (.iface 188 (.agg #[.pointer (some ⟨3, 225, none⟩)])) w := by kernel_rfl
theorem Tryz.isComparable (w : World) : ((Extern.ReflectliteType.method cmpF) #[.agg #[.pointer (some ⟨3, 225, none⟩)]]).run Tryz.prog w = .ok (.bool true) w := by kernel_rfl
theorem Tryz.isMethodComparable (v : Value) (w : World) : (Go.method 355 188 v "Comparable").run Tryz.prog w = .ok (153, v) w := by kernel_rfl
theorem Tryz.isComp : (Tryz.prog.info? 225).map (·.comparable) = some true := by kernel_rfl
theorem Tryz.isSize : (Tryz.prog.info? 244).map (·.size) = some 1 := by kernel_rfl

theorem Tryz.noIsF (v : Value) (xT : TypeId) (w : World) : (Instr.typeAssert (.iface 106 v) xT 190 true).run Tryz.prog w = .ok (.tuple #[.nilIface, .bool false]) w := run_typeAssert_lacksB Tryz.underlying190 (by kernel_rfl) (by kernel_rfl) v xT w
theorem Tryz.hasUnwrapF (v : Value) (xT : TypeId) (w : World) : (Instr.typeAssert (.iface 106 v) xT 193 true).run Tryz.prog w = .ok (.tuple #[.iface 106 v, .bool true]) w := run_typeAssert_hasB Tryz.underlying193 (by kernel_rfl) v xT w
theorem Tryz.methodUnwrapF (v : Value) (w : World) : (Go.method 355 106 v "Unwrap").run Tryz.prog w = .ok (145, v) w := by kernel_rfl
theorem Tryz.noIsI (v : Value) (xT : TypeId) (w : World) : (Instr.typeAssert (.iface 117 v) xT 190 true).run Tryz.prog w = .ok (.tuple #[.nilIface, .bool false]) w := run_typeAssert_lacksB Tryz.underlying190 (by kernel_rfl) (by kernel_rfl) v xT w
theorem Tryz.hasUnwrapI (v : Value) (xT : TypeId) (w : World) : (Instr.typeAssert (.iface 117 v) xT 193 true).run Tryz.prog w = .ok (.tuple #[.iface 117 v, .bool true]) w := run_typeAssert_hasB Tryz.underlying193 (by kernel_rfl) v xT w
theorem Tryz.methodUnwrapI (v : Value) (w : World) : (Go.method 355 117 v "Unwrap").run Tryz.prog w = .ok (147, v) w := by kernel_rfl

/-- errors.Is(nil, Broken). -/
theorem is_nil (b : Addr) (w : World) :
    Calls Tryz.prog 39 #[.nilIface, .iface 225 (.pointer (some b))] w fun e w' => e = .returned (.bool false) ∧ w = w' := by
  have hn := run_eql_iface_nil_left (P := Tryz.prog) w 225 (.pointer (some b)) Tryz.underlying72
  go_enter Tryz.func39, Tryz.ntmps39
  go_wp2
  go_ret
  exact ⟨rfl, rfl⟩

set_option maxHeartbeats 1600000 in
/-- errors.Is(e, Broken), e a *Flaw. -/
theorem is_flaw (x b : Addr) (w : World) (hg : w.cell? ⟨0, 0, none⟩ = some (.iface 225 (.pointer (some b)))) :
    Calls Tryz.prog 39 #[.iface 106 (.pointer (some x)), .iface 225 (.pointer (some b))] w fun e w' => e = .returned (.bool true) ∧ w = w' := by
  obtain ⟨i, hi, hcmp⟩ := Option.map_eq_some_iff.1 Tryz.isComp
  obtain ⟨j, hj, hjs⟩ := Option.map_eq_some_iff.1 Tryz.isSize
  have h8 := @run_callFunc_extern Tryz.prog 63 _ Extern.ReflectliteType.typeOf Tryz.func63 (by kernel_rfl) (by kernel_rfl) (by kernel_rfl) (by kernel_rfl)
  have h32 := @run_callFunc_extern Tryz.prog 153 _ (Extern.ReflectliteType.method cmpF) Tryz.func153 (by kernel_rfl) (by kernel_rfl) (by kernel_rfl) (by kernel_rfl)
  have tT := Tryz.isTypeOf
  have cT := Tryz.isComparable
  have mR := Tryz.isMethodComparable
  have nF := Tryz.noIsF
  have uF := Tryz.hasUnwrapF
  have mF := Tryz.methodUnwrapF
  have heq := run_eql_iface_ptr_same (P := Tryz.prog) w b Tryz.underlying72 Tryz.underlying225 hi hcmp hj
  have hty := run_eql_iface_types (P := Tryz.prog) 106 225 (.pointer (some x)) (.pointer (some b)) Tryz.underlying72 (by decide) w
  go_enter Tryz.func39, Tryz.ntmps39
  go_wp2
  refine wp_loop_rounds 2 ?_
  rw [rounds_succ]
  go_wp2
  rw [rounds_succ]
  go_wp2
  go_ret
  exact ⟨rfl, rfl⟩

set_option maxHeartbeats 1600000 in
/-- errors.Is(e, Broken), e an *inFunction with a *Flaw in it. -/
theorem is_wrap (y : Nat) (x b : Addr) (w : World) (hg : w.cell? ⟨0, 0, none⟩ = some (.iface 225 (.pointer (some b)))) (hy : w.cell? ⟨y, 1, none⟩ = some (.iface 106 (.pointer (some x)))) :
    Calls Tryz.prog 39 #[.iface 117 (.pointer (some ⟨y, 0, none⟩)), .iface 225 (.pointer (some b))] w fun e w' => e = .returned (.bool true) ∧ w = w' := by
  obtain ⟨i, hi, hcmp⟩ := Option.map_eq_some_iff.1 Tryz.isComp
  obtain ⟨j, hj, hjs⟩ := Option.map_eq_some_iff.1 Tryz.isSize
  have h8 := @run_callFunc_extern Tryz.prog 63 _ Extern.ReflectliteType.typeOf Tryz.func63 (by kernel_rfl) (by kernel_rfl) (by kernel_rfl) (by kernel_rfl)
  have h32 := @run_callFunc_extern Tryz.prog 153 _ (Extern.ReflectliteType.method cmpF) Tryz.func153 (by kernel_rfl) (by kernel_rfl) (by kernel_rfl) (by kernel_rfl)
  have tT := Tryz.isTypeOf
  have cT := Tryz.isComparable
  have mR := Tryz.isMethodComparable
  have nF := Tryz.noIsF
  have uF := Tryz.hasUnwrapF
  have mF := Tryz.methodUnwrapF
  have nI := Tryz.noIsI
  have uI := Tryz.hasUnwrapI
  have mI := Tryz.methodUnwrapI
  have heq := run_eql_iface_ptr_same (P := Tryz.prog) w b Tryz.underlying72 Tryz.underlying225 hi hcmp hj
  have hty := run_eql_iface_types (P := Tryz.prog) 106 225 (.pointer (some x)) (.pointer (some b)) Tryz.underlying72 (by decide) w
  have hty2 := run_eql_iface_types (P := Tryz.prog) 117 225 (.pointer (some ⟨y, 0, none⟩)) (.pointer (some b)) Tryz.underlying72 (by decide) w
  go_enter Tryz.func39, Tryz.ntmps39
  go_wp2
  refine wp_loop_rounds 3 ?_
  rw [rounds_succ]
  go_wp2
  rw [rounds_succ]
  go_wp2
  rw [rounds_succ]
  go_wp2
  go_ret
  exact ⟨rfl, rfl⟩
end Go.Proofs.YtbmaiioecnmopaaGreatDoor
