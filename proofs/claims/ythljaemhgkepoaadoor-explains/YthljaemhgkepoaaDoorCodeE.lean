/-
  THE PROGRAM's SIDE (package triage): read. By the verifier of the loop 'triage'.
-/
import Derived.Test.YthljaemhgkepoaaDoorCodeD
namespace Go.Proofs.YthljaemhgkepoaaDoor
open Go.RowKit

/-- an error that is a flaw, or says in which function one lies. -/
def Wrapped (B : Nat) (w : World) (er : Value) (c p : Int) : Prop :=
  Flawed B w er c p ∨ ∃ b f fl, er = .iface 100 (.pointer (some ⟨b, 0, none⟩)) ∧ B ≤ b ∧ w.heap[b]? = some (.cells #[.int .i64 f, fl] 102 (0, 0)) ∧ Flawed B w fl c p

/-- how read ends, where it refuses. -/
def ReadBad (s : ByteArray) (w w' : World) (e : Ending) : Prop :=
  ∃ er, e = .returned (.tuple #[.agg #[.slice none 0 0, .slice none 0 0], er]) ∧ Wrapped w.heap.size w' er (Im.chk s).1 (Im.chk s).2 ∧ Below w.heap.size w w'

/-- the world in which read calls layOut: the image boxed, the result's struct laid. -/
def rw0 (s : ByteArray) (w : World) : World := (w.alloc (.cells #[.string s] 9)).alloc (.cells #[.slice none 0 0, .slice none 0 0] 72)
theorem rw0_size (s : ByteArray) (w : World) : (rw0 s w).heap.size = w.heap.size + 2 := by simp [rw0]
theorem rw0_img (s : ByteArray) (w : World) : (rw0 s w).heap[w.heap.size]? = some (.cells #[.string s] 9 (0, 0)) := by
  unfold rw0
  rw [Below.heap_alloc _ _ _ (by simp)]
  exact heap_new _ _
theorem rw0_res (s : ByteArray) (w : World) : (rw0 s w).heap[w.heap.size + 1]? = some (.cells #[.slice none 0 0, .slice none 0 0] 72 (0, 0)) := by
  have h := heap_new (w.alloc (.cells #[.string s] 9)) (.cells #[.slice none 0 0, .slice none 0 0] 72)
  simpa [rw0] using h
theorem rw0_below (s : ByteArray) (w : World) : Below w.heap.size w (rw0 s w) := ((Below.refl _ _).alloc (Nat.le_refl _) _).alloc (by simp) _
theorem cell_of_heap {w : World} {b o : Nat} {c : Array Value} {t : TypeId} {v : Value} (h : w.heap[b]? = some (.cells c t (0, 0))) (hv : c[o]? = some v) : w.cell? ⟨b, o, none⟩ = some v := by
  simp [World.cell?, h, hv]
theorem free_of_heap {w : World} {b o : Nat} {c : Array Value} {t : TypeId} (h : w.heap[b]? = some (.cells c t (0, 0))) : w.frozen? ⟨b, o, none⟩ = false := by
  simp [World.frozen?, h]
theorem Flawed.below {B B' : Nat} {w w' : World} {er : Value} {c p : Int} (h : Flawed B w er c p) (hb : Below w.heap.size w w') (hB : B' ≤ B) : Flawed B' w' er c p := by
  obtain ⟨b, rfl, h1, h2⟩ := h
  exact ⟨b, rfl, by omega, by rw [hb.block b (Array.getElem?_eq_some_iff.1 h2).1]; exact h2⟩
theorem Flawed.set {B r : Nat} {w : World} {er : Value} {c p : Int} (h : Flawed B w er c p) (hr : r < B) (o : Nat) (v : Value) : Flawed B (w.setCell ⟨r, o, none⟩ v) er c p := by
  obtain ⟨b, rfl, h1, h2⟩ := h
  exact ⟨b, rfl, h1, by rw [Below.heap_setCell _ _ _ _ (by show b ≠ r; omega)]; exact h2⟩
theorem Flawed.mono {B B' : Nat} {w : World} {er : Value} {c p : Int} (h : Flawed B w er c p) (hB : B' ≤ B) : Flawed B' w er c p := by
  obtain ⟨b, rfl, h1, h2⟩ := h
  exact ⟨b, rfl, by omega, h2⟩

/-- what the walk asks of the result's struct. -/
theorem res_cells {s : ByteArray} {w w1 : World} (hb : w1.heap[w.heap.size + 1]? = (rw0 s w).heap[w.heap.size + 1]?) :
    w1.cell? ⟨w.heap.size + 1, 0, none⟩ = some (.slice none 0 0) ∧ w1.cell? ⟨w.heap.size + 1, 1, none⟩ = some (.slice none 0 0) ∧ w1.frozen? ⟨w.heap.size + 1, 0, none⟩ = false ∧ w1.frozen? ⟨w.heap.size + 1, 1, none⟩ = false := by
  rw [rw0_res] at hb
  exact ⟨cell_of_heap hb rfl, cell_of_heap hb rfl, free_of_heap hb, free_of_heap hb⟩

theorem readbad_flaw {s : ByteArray} {w w1 : World} {er : Value} {c p : Int} (hE : Im.chk s = (c, p)) (hF : Flawed (w.heap.size + 2) w1 er c p) (hB : Below w.heap.size w w1) (x y : Value) :
    ReadBad s w ((w1.setCell ⟨w.heap.size + 1, 0, none⟩ x).setCell ⟨w.heap.size + 1, 1, none⟩ y) (.returned (.tuple #[.agg #[.slice none 0 0, .slice none 0 0], er])) := by
  refine ⟨er, rfl, Or.inl ?_, (hB.setCell (by show w.heap.size ≤ w.heap.size + 1; omega) _).setCell (by show w.heap.size ≤ w.heap.size + 1; omega) _⟩
  rw [hE]
  exact ((hF.set (by omega) _ _).set (by omega) _ _).mono (by omega)

set_option maxHeartbeats 400000 in
theorem read_long (s : ByteArray) (w : World) (hs : 200 < s.size) :
    Calls Tryd.prog 26 #[.string s] w fun e w' => ReadBad s w w' e := by
  have HE : Hid (Im.chk s = (1, 0)) := by unfold Im.chk; rw [if_pos hs]; rfl
  go_enter Tryd.func26, Tryd.ntmps26
  go_wp2_with fail
  change Calls _ _ _ (rw0 s w) _
  refine (layOut_long s _ hs).mono ?_
  rintro e w1 ⟨er, rfl, hF, hbl⟩
  rw [rw0_size] at hF hbl
  obtain ⟨r0, r1, f0, f1⟩ := res_cells (hbl.block _ (by omega))
  have HF : Hid (Flawed (w.heap.size + 2) w1 er 1 0) := hF
  have hB := (rw0_below s w).trans (hbl.mono (by omega))
  clear hbl
  obtain ⟨b, rfl, -, -⟩ := hF
  go_wp2
  exact bodyPost_ret (v := .tuple #[.agg #[.slice none 0 0, .slice none 0 0], .iface 32 (.pointer (some ⟨b, 0, none⟩))]) (by simp [results, Tryd.results26, go_sem, r0, r1]) rfl (readbad_flaw HE.out HF.out hB _ _)

set_option maxHeartbeats 400000 in
theorem read_head (s : ByteArray) (p : Nat) (w : World) (hs : s.size ≤ 200) (hp : Im.hd s = some p) :
    Calls Tryd.prog 26 #[.string s] w fun e w' => ReadBad s w w' e := by
  have HE : Hid (Im.chk s = (2, (p : Int))) := by unfold Im.chk; rw [if_neg (by omega), hp]; rfl
  have HP : Hid (Im.hd s = some p) := hp
  clear hp
  go_enter Tryd.func26, Tryd.ntmps26
  go_wp2_with fail
  change Calls _ _ _ (rw0 s w) _
  refine (layOut_all s _ hs).mono ?_
  rintro e w1 (⟨p', er, hp', rfl, hF, hbl⟩ | ⟨v, hp', _⟩)
  · obtain rfl : p = p' := by have h := HP.out; rw [hp'] at h; simpa using h.symm
    clear hp'
    rw [rw0_size] at hF hbl
    obtain ⟨r0, r1, f0, f1⟩ := res_cells (hbl.block _ (by omega))
    have HF : Hid (Flawed (w.heap.size + 2) w1 er 2 p) := hF
    have hB := (rw0_below s w).trans (hbl.mono (by omega))
    clear hbl
    obtain ⟨b, rfl, -, -⟩ := hF
    go_wp2
    exact bodyPost_ret (v := .tuple #[.agg #[.slice none 0 0, .slice none 0 0], .iface 32 (.pointer (some ⟨b, 0, none⟩))]) (by simp [results, Tryd.results26, go_sem, r0, r1]) rfl (readbad_flaw HE.out HF.out hB _ _)
  · have h := HP.out
    rw [hp'] at h
    simp at h
end Go.Proofs.YthljaemhgkepoaaDoor
