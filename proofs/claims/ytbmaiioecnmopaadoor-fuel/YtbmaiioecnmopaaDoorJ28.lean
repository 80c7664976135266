/-
  THE PLAIN MACHINE: with more fuel. By the verifier of the loop 'triage'.
-/
import Derived.Test.YtbmaiioecnmopaaDoorJ16
namespace Go.Proofs.YtbmaiioecnmopaaDoor
namespace Im

theorem step_edg (s inp : ByteArray) (m : St) (i : Nat) (h : m.edg i = true) : (stepP s inp m).1.edg i = true := by
  have key : (fun r : St × Nat => r.1.edg i = true) (stepP s inp m) := by
    unfold stepP
    repeat' (refine itep (P := fun r : St × Nat => r.1.edg i = true) (fun _ => ?_) (fun _ => ?_))
    all_goals first | exact h | (show up m.edg _ i = true; unfold up; split; rfl; exact h)
  exact key
theorem runP_edg (s inp : ByteArray) : ∀ f m k i, m.edg i = true → (runP s inp f m k).2.2.1.edg i = true := by
  intro f
  induction f with
  | zero => intro m k i h; exact h
  | succ f ih =>
    intro m k i h
    unfold runP
    have h1 := step_edg s inp m i h
    split
    · exact ih _ _ i h1
    · split
      · exact h1
      · exact h1
theorem runP_add (s inp : ByteArray) : ∀ f d m k, runP s inp (f + d) m k = if (runP s inp f m k).1 = 2 then runP s inp d (runP s inp f m k).2.2.1 (runP s inp f m k).2.2.2 else runP s inp f m k := by
  intro f
  induction f with
  | zero => intro d m k; rw [Nat.zero_add]; rfl
  | succ f ih =>
    intro d m k
    rw [show f + 1 + d = (f + d) + 1 by omega]
    by_cases h0 : (stepP s inp m).2 = 0
    · have e1 : runP s inp (f + d + 1) m k = runP s inp (f + d) (stepP s inp m).1 (k + 1) := by rw [runP, if_pos h0]
      have e2 : runP s inp (f + 1) m k = runP s inp f (stepP s inp m).1 (k + 1) := by rw [runP, if_pos h0]
      rw [e1, e2]
      exact ih d _ _
    · by_cases h10 : (stepP s inp m).2 = 10
      · have e1 : ∀ n, runP s inp (n + 1) m k = (0, 0, (stepP s inp m).1, k + 1) := fun n => by rw [runP, if_neg h0, if_pos h10]
        rw [e1, e1, if_neg (by simp)]
      · have e1 : ∀ n, runP s inp (n + 1) m k = (1, (stepP s inp m).2, (stepP s inp m).1, k + 1) := fun n => by rw [runP, if_neg h0, if_neg h10]
        rw [e1, e1, if_neg (by simp)]
theorem runP_steps (s inp : ByteArray) : ∀ f m k, k ≤ (runP s inp f m k).2.2.2 ∧ (runP s inp f m k).2.2.2 ≤ k + f ∧ ((runP s inp f m k).1 = 2 → (runP s inp f m k).2.2.2 = k + f ∧ (runP s inp f m k).2.1 = 0) ∧ ((runP s inp f m k).1 ≠ 2 → k < (runP s inp f m k).2.2.2) := by
  intro f
  induction f with
  | zero => intro m k; exact ⟨Nat.le_refl _, Nat.le_refl _, fun _ => ⟨rfl, rfl⟩, fun h => absurd rfl h⟩
  | succ f ih =>
    intro m k
    by_cases h0 : (stepP s inp m).2 = 0
    · have e2 : runP s inp (f + 1) m k = runP s inp f (stepP s inp m).1 (k + 1) := by rw [runP, if_pos h0]
      rw [e2]
      obtain ⟨a, b, c, d⟩ := ih (stepP s inp m).1 (k + 1)
      exact ⟨by omega, by omega, fun h => ⟨by have := (c h).1; omega, (c h).2⟩, fun _ => by omega⟩
    · by_cases h10 : (stepP s inp m).2 = 10
      · have e1 : runP s inp (f + 1) m k = (0, 0, (stepP s inp m).1, k + 1) := by rw [runP, if_neg h0, if_pos h10]
        rw [e1]
        exact ⟨Nat.le_succ _, by show k + 1 ≤ _; omega, fun h => by simp at h, fun _ => Nat.lt_succ_self _⟩
      · have e1 : runP s inp (f + 1) m k = (1, (stepP s inp m).2, (stepP s inp m).1, k + 1) := by rw [runP, if_neg h0, if_neg h10]
        rw [e1]
        exact ⟨Nat.le_succ _, by show k + 1 ≤ _; omega, fun h => by simp at h, fun _ => Nat.lt_succ_self _⟩
theorem el_rise (E : Nat → Bool) (i : Nat) (h0 : 1 ≤ i) (h : i < (el E).length) : (el E)[i - 1]?.getD 0 < (el E)[i]?.getD 0 := by
  have hp : (el E).Pairwise (· < ·) := List.Pairwise.filter _ List.pairwise_lt_range
  rw [List.getElem?_eq_getElem (by omega), List.getElem?_eq_getElem h]
  exact List.pairwise_iff_getElem.1 hp (i - 1) i (by omega) h (by omega)
theorem el_sub (E F : Nat → Bool) (h : ∀ i, E i = true → F i = true) (x : Nat) (hx : x ∈ el E) : x ∈ el F := by
  have := List.mem_filter.1 hx
  exact List.mem_filter.2 ⟨this.1, h x this.2⟩
end Im

/-- WITH MORE FUEL: what Fuel asks. -/
structure Mor (a b : Rp) (fuel : Nat) : Prop where
  st : a.k ≤ fuel
  up : ∀ i, 1 ≤ i → i < a.eds.length → a.eds[i - 1]?.getD 0 < a.eds[i]?.getD 0
  sub : ∀ x, x ∈ a.eds → x ∈ b.eds
  two : a.en = 2 → a.k = fuel ∧ fuel ≤ b.k ∧ a.sts = [] ∧ a.kd = 0 ∧ a.top = -1
  not : a.en ≠ 2 → b = a ∧ 0 < a.k
theorem mor_of (s inp : ByteArray) (fuel more : Nat) (h : fuel ≤ more) : Mor (ofR (Im.runP s inp fuel (Im.st0 s) 0)) (ofR (Im.runP s inp more (Im.st0 s) 0)) fuel := by
  obtain ⟨d, rfl⟩ : ∃ d, more = fuel + d := ⟨more - fuel, by omega⟩
  have ha := Im.runP_add s inp fuel d (Im.st0 s) 0
  obtain ⟨_, h2, h3, h4⟩ := Im.runP_steps s inp fuel (Im.st0 s) 0
  by_cases h5 : (Im.runP s inp fuel (Im.st0 s) 0).1 = 2
  · rw [if_pos h5] at ha
    have hb := Im.runP_steps s inp d (Im.runP s inp fuel (Im.st0 s) 0).2.2.1 (Im.runP s inp fuel (Im.st0 s) 0).2.2.2
    have he := Im.runP_edg s inp d (Im.runP s inp fuel (Im.st0 s) 0).2.2.1 (Im.runP s inp fuel (Im.st0 s) 0).2.2.2
    rw [ha]
    obtain ⟨h31, h32⟩ := h3 h5
    refine ⟨by show (Im.runP s inp fuel (Im.st0 s) 0).2.2.2 ≤ fuel; omega, Im.el_rise _, Im.el_sub _ _ he, fun _ => ⟨by show (Im.runP s inp fuel (Im.st0 s) 0).2.2.2 = fuel; omega, by have := hb.1; show fuel ≤ (Im.runP s inp d (Im.runP s inp fuel (Im.st0 s) 0).2.2.1 (Im.runP s inp fuel (Im.st0 s) 0).2.2.2).2.2.2; omega, ?_, h32, ?_⟩, fun h => absurd h5 h⟩
    · show rsts _ = []
      unfold rsts; rw [if_neg (by rw [h5]; decide)]
    · show rtop _ = -1
      unfold rtop; rw [if_neg (by rw [h5]; decide)]
  · rw [if_neg h5] at ha
    rw [ha]
    exact ⟨by show (Im.runP s inp fuel (Im.st0 s) 0).2.2.2 ≤ fuel; omega, Im.el_rise _, fun x hx => hx, fun h => absurd h h5, fun _ => ⟨rfl, h4 h5⟩⟩

theorem run_calB (s inp : ByteArray) (n : Nat) (ho : Im.Okay s n) : ∀ f m k, Im.Good s inp n m → (Im.runP s inp f m k).2.2.1.cal.length ≤ 8 := by
  intro f
  induction f with
  | zero => intro m k hg; exact hg.hcl
  | succ f ih =>
    intro m k hg
    unfold Im.runP
    by_cases h0 : (Im.stepP s inp m).2 = 0
    · rw [if_pos h0]; exact ih _ _ (Im.good_step s inp n m ho hg h0)
    · have hs := Im.step_stays s inp m h0
      rw [if_neg h0]
      by_cases h10 : (Im.stepP s inp m).2 = 10
      · rw [if_pos h10]; show (Im.stepP s inp m).1.cal.length ≤ 8; rw [hs]; exact hg.hcl
      · rw [if_neg h10]; show (Im.stepP s inp m).1.cal.length ≤ 8; rw [hs]; exact hg.hcl
theorem outP_stsB (s inp : ByteArray) (fuel : Int) : (outP s inp fuel).1.sts.length ≤ 8 := by
  unfold outP
  by_cases h : (Im.chk s).1 ≠ 0
  · rw [if_pos h]; simp [rz]
  · rw [if_neg h]
    have hc := chk_zero s (by omega)
    have ho := Im.okay_of s hc
    split
    · simp [rz]
    · split
      · simp [rz]
      · show (rsts _).length ≤ 8
        unfold rsts
        split
        · rw [List.length_reverse]
          exact run_calB s inp _ ho _ _ _ (Im.good_start s inp _ ho)
        · simp

/-- the run that Fuel opens with. -/
theorem out_trap : (outP ⟨#[1, 1, 17]⟩ ⟨#[]⟩ 9).1.en = 1 ∧ (outP ⟨#[1, 1, 17]⟩ ⟨#[]⟩ 9).2.1 = 0 := by
  constructor <;> decide
end Go.Proofs.YtbmaiioecnmopaaDoor
