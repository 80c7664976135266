/-
  THE LAW Runs: its walk. By the verifier of the loop 'triage'.
-/
import Derived.Test.YtbmaiioecnmopaaDoorJ29
import Derived.Test.YtbmaiioecnmopaaDoorJ28
namespace Go.Proofs.YtbmaiioecnmopaaDoor
open Go.RowKit

theorem run_cal (s inp : ByteArray) (n : Nat) (ho : Im.Okay s n) : ∀ f m k, Im.Good s inp n m → (Im.runP s inp f m k).2.2.1.cal.length ≤ 8 := by
  intro f
  induction f with
  | zero => intro m k hg; exact hg.hcl
  | succ f ih =>
    intro m k hg
    unfold Im.runP
    by_cases h0 : (Im.stepP s inp m).2 = 0
    · rw [if_pos h0]; exact ih _ _ (Im.good_step s inp n m ho hg h0)
    · have hs := Im.step_stays s inp m h0
      rw [if_neg h0]
      by_cases h10 : (Im.stepP s inp m).2 = 10
      · rw [if_pos h10]; show (Im.stepP s inp m).1.cal.length ≤ 8; rw [hs]; exact hg.hcl
      · rw [if_neg h10]; show (Im.stepP s inp m).1.cal.length ≤ 8; rw [hs]; exact hg.hcl
theorem outP_sts (s inp : ByteArray) (fuel : Int) : (outP s inp fuel).1.sts.length ≤ 8 := by
  unfold outP
  by_cases h : (Im.chk s).1 ≠ 0
  · rw [if_pos h]; simp [rz]
  · rw [if_neg h]
    have hc := chk_zero s (by omega)
    have ho := Im.okay_of s hc
    split
    · simp [rz]
    · split
      · simp [rz]
      · show (rsts _).length ≤ 8
        unfold rsts
        split
        · rw [List.length_reverse]
          exact run_cal s inp _ ho _ _ _ (Im.good_start s inp _ ho)
        · simp

theorem owns_below {w w' : World} {base : Nat} {e : TypeId} {size : Nat} {v : Value} {n : Nat} {xs : List Value} (h : w.ownsRow base e size v n xs) (hb : Below w.heap.size w w') : w'.ownsRow base e size v n xs :=
  World.ownsRow.kept h (grown_of_below hb) (by rcases hx : v.ownBlock with _ | x; exact Or.inl rfl; exact Or.inr (by simp))
/-- eight cells of a block. -/
theorem c8_of {w : World} {b : Nat} {v0 v1 v2 v3 v4 v5 v6 v7 : Value} {t : TypeId} (h : w.heap[b]? = some (.cells #[v0, v1, v2, v3, v4, v5, v6, v7] t (0, 0))) :
    w.cell? ⟨b, 0, none⟩ = some v0 ∧ w.cell? ⟨b, 1, none⟩ = some v1 ∧ w.cell? ⟨b, 2, none⟩ = some v2 ∧ w.cell? ⟨b, 3, none⟩ = some v3 ∧ w.cell? ⟨b, 4, none⟩ = some v4 ∧ w.cell? ⟨b, 5, none⟩ = some v5 ∧ w.cell? ⟨b, 6, none⟩ = some v6 ∧ w.cell? ⟨b, 7, none⟩ = some v7 :=
  ⟨cell_of_heap h rfl, cell_of_heap h rfl, cell_of_heap h rfl, cell_of_heap h rfl, cell_of_heap h rfl, cell_of_heap h rfl, cell_of_heap h rfl, cell_of_heap h rfl⟩
set_option maxHeartbeats 3200000 in
set_option maxRecDepth 100000 in
theorem report_any (A B : Nat) (a b : Value) (p : Rp) (w : World) (hp : p.sts.length ≤ 8) (ha : RepC A w p a) (hb : RepR B w p b) :
    Calls Tryd.prog 19 #[a, b] w fun e w' => e = .returned (.bool true) ∧ Below w.heap.size w w' := by
  obtain ⟨v4, v5, rfl, h4, h5⟩ := ha
  obtain ⟨v28, v29, rfl, h28, h29⟩ := hb
  obtain ⟨a4, c4, hv4, -, -, -⟩ := owns_shape h4
  obtain ⟨a5, c5, hv5, -, -, -⟩ := owns_shape h5
  obtain ⟨a28, c28, hv28, -, -, -⟩ := owns_shape h28
  obtain ⟨a29, c29, hv29, -, -, -⟩ := owns_shape h29
  subst hv4 hv5 hv28 hv29
  obtain ⟨en, fa, pa, kd, sts, eds, k, top⟩ := p
  dsimp only at *
  obtain ⟨W, hW⟩ : ∃ W, ((w.alloc (.cells #[.int .i64 (fa : Nat), .int .i64 (pa : Nat), .int .i64 (kd : Nat), .int .i64 (en : Nat), .slice a4 sts.length c4, .slice a5 eds.length c5, .int .i64 (k : Nat), .int .i64 top] 45)).alloc (.cells #[.int .i64 (en : Nat), .int .i64 (fa : Nat), .int .i64 (pa : Nat), .int .i64 (kd : Nat), .slice a28 sts.length c28, .slice a29 eds.length c29, .int .i64 (k : Nat), .int .i64 top] 51)) = W := ⟨_, rfl⟩
  have hWB : Below w.heap.size w W := by rw [← hW]; exact ((Below.refl _ _).alloc (Nat.le_refl _) _).alloc (by simp) _
  have hWs : W.heap.size = w.heap.size + 1 + 1 := by rw [← hW]; simp
  have hWa : W.heap[w.heap.size]? = some (.cells #[.int .i64 (fa : Nat), .int .i64 (pa : Nat), .int .i64 (kd : Nat), .int .i64 (en : Nat), .slice a4 sts.length c4, .slice a5 eds.length c5, .int .i64 (k : Nat), .int .i64 top] 45 (0, 0)) := by rw [← hW, Below.heap_alloc _ _ _ (by simp)]; exact heap_new _ _
  have hWb : W.heap[w.heap.size + 1]? = some (.cells #[.int .i64 (en : Nat), .int .i64 (fa : Nat), .int .i64 (pa : Nat), .int .i64 (kd : Nat), .slice a28 sts.length c28, .slice a29 eds.length c29, .int .i64 (k : Nat), .int .i64 top] 51 (0, 0)) := by
    rw [← hW]
    have := heap_new (w.alloc (.cells #[.int .i64 (fa : Nat), .int .i64 (pa : Nat), .int .i64 (kd : Nat), .int .i64 (en : Nat), .slice a4 sts.length c4, .slice a5 eds.length c5, .int .i64 (k : Nat), .int .i64 top] 45)) (.cells #[.int .i64 (en : Nat), .int .i64 (fa : Nat), .int .i64 (pa : Nat), .int .i64 (kd : Nat), .slice a28 sts.length c28, .slice a29 eds.length c29, .int .i64 (k : Nat), .int .i64 top] 51)
    simpa using this
  have H4 : Hid (W.ownsRow A 39 2 (.slice a4 sts.length c4) sts.length (prs sts)) := by show World.ownsRow _ _ _ _ _ _ _; rw [← hW]; exact (h4.alloc _).alloc _
  have H5 : Hid (W.ownsRow A 3 1 (.slice a5 eds.length c5) eds.length (ints eds)) := by show World.ownsRow _ _ _ _ _ _ _; rw [← hW]; exact (h5.alloc _).alloc _
  have H28 : Hid (W.ownsRow B 48 2 (.slice a28 sts.length c28) sts.length (prs sts)) := by show World.ownsRow _ _ _ _ _ _ _; rw [← hW]; exact (h28.alloc _).alloc _
  have H29 : Hid (W.ownsRow B 3 1 (.slice a29 eds.length c29) eds.length (ints eds)) := by show World.ownsRow _ _ _ _ _ _ _; rw [← hW]; exact (h29.alloc _).alloc _
  have HWA : Hid (∀ w', Below W.heap.size W w' → w'.heap[w.heap.size]? = _ ∧ w'.heap[w.heap.size + 1]? = _) := fun w' h => ⟨(h.block _ (by omega)).trans hWa, (h.block _ (by omega)).trans hWb⟩
  have HWB : Hid (Below w.heap.size w W) := hWB
  obtain ⟨p0, p1, p2, p3, p4, p5, p6, p7⟩ := c8_of hWa
  obtain ⟨q0, q1, q2, q3, q4, q5, q6, q7⟩ := c8_of hWb
  clear h4 h5 h28 h29 hWB hWa hWb
  go_enter Tryd.func19, Tryd.ntmps19
  go_wp2_with fail
  clear hW
  go_region_with (first | (go_at_call 24; refine (sites_any A _ sts _ (by omega) (by exact H4.out)).mono ?_; rintro e w1 ⟨v, rfl, ho, hb0⟩; have hb1 : Below W.heap.size W w1 := ⟨hb0.os, hb0.tape, hb0.output, hb0.size, hb0.block⟩; clear hb0; obtain ⟨av, cv, hvv, -, -, -⟩ := owns_shape ho; subst hvv; obtain ⟨r0, r1, r2, r3, r4, r5, r6, r7⟩ := c8_of (HWA.out w1 hb1).2; clear r0 r1 r2 r3 r5 r6 r7) | (go_at_call 23; refine (sameSites_any _ B _ _ sts _ (by omega) (by exact ho) (by exact owns_below H28.out hb1)).mono ?_; rintro e w2 ⟨rfl, hb2⟩))
  all_goals
    have hB2 : Below W.heap.size W w2 := hb1.trans (hb2.mono hb1.size)
    clear p0 p1 p2 p3 p4 p5 p6 p7 q0 q1 q2 q3 q4 q5 q6 q7 r4 ho hb1 hb2
    obtain ⟨p0, p1, p2, p3, p4, p5, p6, p7⟩ := c8_of (HWA.out w2 hB2).1
    obtain ⟨q0, q1, q2, q3, q4, q5, q6, q7⟩ := c8_of (HWA.out w2 hB2).2
    go_wp2_with fail
    refine (sameInts_any A B _ _ eds _ (owns_below H5.out hB2) (owns_below H29.out hB2)).mono ?_
    rintro e w5 ⟨rfl, hb5⟩
    have hB5 : Below W.heap.size W w5 := hB2.trans (hb5.mono hB2.size)
    clear p0 p1 p2 p3 p4 p5 p6 p7 q0 q1 q2 q3 q4 q5 q6 q7 hB2 hb5
    obtain ⟨p0, p1, p2, p3, p4, p5, p6, p7⟩ := c8_of (HWA.out w5 hB5).1
    obtain ⟨q0, q1, q2, q3, q4, q5, q6, q7⟩ := c8_of (HWA.out w5 hB5).2
    have HB5 : Hid (Below w.heap.size w w5) := HWB.out.trans (hB5.mono HWB.out.size)
    clear hB5 p4 p5 q4 q5
    go_wp2
    go_ret
    exact ⟨by simp, HB5.out⟩

theorem repC_below {B : Nat} {w w' : World} {p : Rp} {v : Value} (h : RepC B w p v) (hb : Below w.heap.size w w') : RepC B w' p v := by
  obtain ⟨v4, v5, hv, h4, h5⟩ := h
  exact ⟨v4, v5, hv, owns_below h4 hb, owns_below h5 hb⟩
theorem repR_below {B : Nat} {w w' : World} {p : Rp} {v : Value} (h : RepR B w p v) (hb : Below w.heap.size w w') : RepR B w' p v := by
  obtain ⟨v4, v5, hv, h4, h5⟩ := h
  exact ⟨v4, v5, hv, owns_below h4 hb, owns_below h5 hb⟩
set_option maxHeartbeats 3200000 in
set_option maxRecDepth 100000 in
theorem runs_walk (s inp : ByteArray) (fuel : Int) (w : World) (hG : Glob w) : Calls Tryd.prog 5 #[.string s, .string inp, .int .i64 fuel] w fun e w' => e = .returned (.bool true) ∧ Below w.heap.size w w' := by
  have HG : Hid (Glob w) := hG
  clear hG
  go_enter Tryd.func5, Tryd.ntmps5
  go_wp2_with fail
  refine (crun_any s inp fuel _ HG.out).mono ?_
  rintro e w1 ⟨v, rfl, ha, hb1⟩
  have hst := outP_sts s inp fuel
  have HA : Hid (RepC w.heap.size w1 (outP s inp fuel).1 v) := ha
  have HB1 : Hid _ := hb1
  obtain ⟨v4, v5, hv, h4, h5⟩ := ha
  obtain ⟨a4, c4, hv4, -, -, -⟩ := owns_shape h4
  obtain ⟨a5, c5, hv5, -, -, -⟩ := owns_shape h5
  subst hv4 hv5
  subst hv
  clear h4 h5 hb1
  go_wp2_with fail
  refine (refrun_any s inp fuel _).mono ?_
  rintro e w2 ⟨u, rfl, hb, hb2⟩
  have HB : Hid (RepR (w1.heap.size + 1) w2 (outP s inp fuel).1 u) := by
    have := hb
    simp only [World.size_alloc] at this
    exact this
  obtain ⟨v28, v29, hu, h28, h29⟩ := hb
  obtain ⟨a28, c28, hv28, -, -, -⟩ := owns_shape h28
  obtain ⟨a29, c29, hv29, -, -, -⟩ := owns_shape h29
  subst hv28 hv29
  subst hu
  clear h28 h29
  have hrb := (hb2.block w1.heap.size (by simp)).trans (heap_new w1 _)
  have HB2 : Hid (Below w1.heap.size w1 w2) := below_new hb2
  have hs2 : w1.heap.size < w2.heap.size := by have := hb2.size; simp at this; omega
  generalize outP s inp fuel = o at *
  obtain ⟨p0, p1, p2, p3, p4, p5, p6, p7⟩ := c8_of hrb
  clear hb2 hrb
  go_wp2_with fail
  refine (report_any _ _ _ _ o.1 _ hst (repC_below HA.out (HB2.out.alloc (Nat.le_of_lt hs2) _)) (repR_below HB.out ((Below.refl _ _).alloc (Nat.le_refl _) _))).mono ?_
  rintro e w3 ⟨rfl, hb3⟩
  have HB3 : Hid (Below w.heap.size w w3) := HB1.out.trans (((HB2.out.alloc (Nat.le_of_lt hs2) _).trans (hb3.mono (by simp; omega))).mono HB1.out.size)
  clear hb3 p0 p1 p2 p3 p4 p5 p6 p7
  go_wp2_with (go_at_call 13; refine (num_any _ _).mono ?_; rintro e w' ⟨rfl, rfl⟩)
  go_ret
  exact ⟨by simp, HB3.out⟩
end Go.Proofs.YtbmaiioecnmopaaDoor
