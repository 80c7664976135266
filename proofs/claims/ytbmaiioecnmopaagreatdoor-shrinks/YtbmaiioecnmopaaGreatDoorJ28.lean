/-
  PureK, PureF: THESE TEXTS, JOINED. By the verifier of the loop 'triage'.
-/
import Derived.Test.YtbmaiioecnmopaaGreatDoorJ16
/-
  THE PLAIN MATHEMATICS of P5's errors and keys. By the verifier of the loop 'triage'.
-/
namespace Go.Proofs.YtbmaiioecnmopaaGreatDoor
open Go.RowKit

/-- the number of the first input that is too long. -/
def lng : List ByteArray → Nat → Option Nat
  | [], _ => none
  | x :: l, i => if 24 < x.size then some i else lng l (i + 1)
/-- numbers that are refused. -/
abbrev badN (fuel depth : Int) (n : Nat) : Prop := fuel < 0 ∨ 2000 < fuel ∨ depth < 0 ∨ 6 < depth ∨ 12 < n
/-- P5's errors. -/
def askP (s : ByteArray) (fuel depth : Int) (L : List ByteArray) : Int × Int :=
  if (Im.chk s).1 ≠ 0 then ((Im.chk s).1, (Im.chk s).2) else if badN fuel depth L.length then (6, 0) else match lng L 0 with | some i => (1, (i : Int)) | none => (0, 0)
theorem askP_chk {s : ByteArray} {fuel depth : Int} {L : List ByteArray} (h : (Im.chk s).1 ≠ 0) : askP s fuel depth L = ((Im.chk s).1, (Im.chk s).2) := by unfold askP; rw [if_pos h]
theorem askP_arg {s : ByteArray} {fuel depth : Int} {L : List ByteArray} (h : (Im.chk s).1 = 0) (hb : badN fuel depth L.length) : askP s fuel depth L = (6, 0) := by unfold askP; rw [if_neg (by simpa using h), if_pos hb]
theorem askP_lng {s : ByteArray} {fuel depth : Int} {L : List ByteArray} (h : (Im.chk s).1 = 0) (hb : ¬ badN fuel depth L.length) {i : Nat} (hi : lng L 0 = some i) : askP s fuel depth L = (1, (i : Int)) := by unfold askP; rw [if_neg (by simpa using h), if_neg hb, hi]
theorem askP_ok {s : ByteArray} {fuel depth : Int} {L : List ByteArray} (h : (Im.chk s).1 = 0) (hb : ¬ badN fuel depth L.length) (hi : lng L 0 = none) : askP s fuel depth L = (0, 0) := by unfold askP; rw [if_neg (by simpa using h), if_neg hb, hi]
theorem lng_step (L : List ByteArray) (j : Nat) (h : j < L.length) : lng (L.drop j) j = if 24 < (L[j]?.getD ByteArray.empty).size then some j else lng (L.drop (j + 1)) (j + 1) := by
  rw [List.drop_eq_getElem_cons h, List.getElem?_eq_getElem h]
  rfl
theorem lng_end (L : List ByteArray) (j : Nat) (h : L.length ≤ j) : lng (L.drop j) j = none := by rw [List.drop_of_length_le h]; rfl
theorem lng_none {L : List ByteArray} {i : Nat} (h : lng L i = none) : ∀ x ∈ L, x.size ≤ 24 := by
  induction L generalizing i with
  | nil => simp
  | cons y l ih =>
    unfold lng at h
    split at h
    · cases h
    · intro x hx
      rcases List.mem_cons.1 hx with rfl | hx
      · omega
      · exact ih h x hx
/-- what is asked, and allowed. -/
structure AskOk (s : ByteArray) (fuel depth : Int) (L : List ByteArray) : Prop where
  chk : Im.chk s = (0, 0)
  fu : 0 ≤ fuel ∧ fuel ≤ 2000
  de : 0 ≤ depth ∧ depth ≤ 6
  n : L.length ≤ 12
  sz : ∀ x ∈ L, x.size ≤ 24
theorem askOk_of {s : ByteArray} {fuel depth : Int} {L : List ByteArray} (h : (Im.chk s).1 = 0) (hb : ¬ badN fuel depth L.length) (hi : lng L 0 = none) : AskOk s fuel depth L := by
  unfold badN at hb
  exact ⟨chk_zero s h, by omega, by omega, by omega, lng_none hi⟩
theorem askP_zero {s : ByteArray} {fuel depth : Int} {L : List ByteArray} (h : (askP s fuel depth L).1 = 0) : AskOk s fuel depth L := by
  by_cases hc : (Im.chk s).1 = 0
  · by_cases hb : badN fuel depth L.length
    · rw [askP_arg hc hb] at h; cases h
    · cases hi : lng L 0 with
      | none => exact askOk_of hc hb hi
      | some i => rw [askP_lng hc hb hi] at h; cases h
  · rw [askP_chk hc] at h; exact absurd h hc
theorem AskOk.ask {s : ByteArray} {fuel depth : Int} {L : List ByteArray} (h : AskOk s fuel depth L) : askP s fuel depth L = (0, 0) := by
  refine askP_ok (by rw [h.chk]) (by unfold badN; have := h.fu; have := h.de; have := h.n; omega) ?_
  have := h.sz
  generalize (0 : Nat) = k
  induction L generalizing k with
  | nil => rfl
  | cons y l ih =>
    unfold lng
    rw [if_neg (by have := this y (by simp); omega)]
    exact ih ⟨h.chk, h.fu, h.de, by have := h.n; simp at this; omega, fun x hx => this x (by simp [hx])⟩ (fun x hx => this x (by simp [hx])) _

/-- the key of a report. -/
def kyR (p : Rp) (d : Nat) : Option (Nat × List (Nat × Nat)) := if p.en = 1 then some (p.kd, p.sts.take d) else none
/-- the run of an image that is one, with an input that is none too long. -/
def rep (s : ByteArray) (fuel : Nat) (inp : ByteArray) : Rp := ofR (Im.runP s inp fuel (Im.st0 s) 0)
def ky (s : ByteArray) (fuel d : Nat) (inp : ByteArray) : Option (Nat × List (Nat × Nat)) := kyR (rep s fuel inp) d
/-- has the run that key? -/
def hit (s : ByteArray) (fuel d : Nat) (k : Nat × List (Nat × Nat)) (inp : ByteArray) : Bool := decide (ky s fuel d inp = some k)
theorem outP_rep {s inp : ByteArray} {fuel : Nat} (hc : Im.chk s = (0, 0)) (hi : inp.size ≤ 24) (hf : fuel ≤ 2000) : outP s inp fuel = (rep s fuel inp, 0, 0) := by
  unfold outP rep
  rw [if_neg (by rw [hc]; simp), if_neg (by omega), if_neg (by omega)]
  rfl
theorem ky_some {s inp : ByteArray} {fuel d : Nat} {k : Nat × List (Nat × Nat)} (h : ky s fuel d inp = some k) : (rep s fuel inp).en = 1 ∧ k = ((rep s fuel inp).kd, (rep s fuel inp).sts.take d) := by
  unfold ky kyR at h
  split at h
  · rename_i he; exact ⟨he, (Option.some.inj h).symm⟩
  · cases h
theorem ky_none {s inp : ByteArray} {fuel d : Nat} (h : ky s fuel d inp = none) : (rep s fuel inp).en ≠ 1 := by
  unfold ky kyR at h
  split at h
  · cases h
  · assumption
end Go.Proofs.YtbmaiioecnmopaaGreatDoor

/-
  THE PLAIN MACHINE: with more fuel. By the verifier of the loop 'triage'.
-/
namespace Go.Proofs.YtbmaiioecnmopaaGreatDoor
namespace Im

theorem step_edg (s inp : ByteArray) (m : St) (i : Nat) (h : m.edg i = true) : (stepP s inp m).1.edg i = true := by
  have key : (fun r : St × Nat => r.1.edg i = true) (stepP s inp m) := by
    unfold stepP
    repeat' (refine itep (P := fun r : St × Nat => r.1.edg i = true) (fun _ => ?_) (fun _ => ?_))
    all_goals first | exact h | (show up m.edg _ i = true; unfold up; split; rfl; exact h)
  exact key
theorem runP_edg (s inp : ByteArray) : ∀ f m k i, m.edg i = true → (runP s inp f m k).2.2.1.edg i = true := by
  intro f
  induction f with
  | zero => intro m k i h; exact h
  | succ f ih =>
    intro m k i h
    unfold runP
    have h1 := step_edg s inp m i h
    split
    · exact ih _ _ i h1
    · split
      · exact h1
      · exact h1
theorem runP_add (s inp : ByteArray) : ∀ f d m k, runP s inp (f + d) m k = if (runP s inp f m k).1 = 2 then runP s inp d (runP s inp f m k).2.2.1 (runP s inp f m k).2.2.2 else runP s inp f m k := by
  intro f
  induction f with
  | zero => intro d m k; rw [Nat.zero_add]; rfl
  | succ f ih =>
    intro d m k
    rw [show f + 1 + d = (f + d) + 1 by omega]
    by_cases h0 : (stepP s inp m).2 = 0
    · have e1 : runP s inp (f + d + 1) m k = runP s inp (f + d) (stepP s inp m).1 (k + 1) := by rw [runP, if_pos h0]
      have e2 : runP s inp (f + 1) m k = runP s inp f (stepP s inp m).1 (k + 1) := by rw [runP, if_pos h0]
      rw [e1, e2]
      exact ih d _ _
    · by_cases h10 : (stepP s inp m).2 = 10
      · have e1 : ∀ n, runP s inp (n + 1) m k = (0, 0, (stepP s inp m).1, k + 1) := fun n => by rw [runP, if_neg h0, if_pos h10]
        rw [e1, e1, if_neg (by simp)]
      · have e1 : ∀ n, runP s inp (n + 1) m k = (1, (stepP s inp m).2, (stepP s inp m).1, k + 1) := fun n => by rw [runP, if_neg h0, if_neg h10]
        rw [e1, e1, if_neg (by simp)]
theorem runP_steps (s inp : ByteArray) : ∀ f m k, k ≤ (runP s inp f m k).2.2.2 ∧ (runP s inp f m k).2.2.2 ≤ k + f ∧ ((runP s inp f m k).1 = 2 → (runP s inp f m k).2.2.2 = k + f ∧ (runP s inp f m k).2.1 = 0) ∧ ((runP s inp f m k).1 ≠ 2 → k < (runP s inp f m k).2.2.2) := by
  intro f
  induction f with
  | zero => intro m k; exact ⟨Nat.le_refl _, Nat.le_refl _, fun _ => ⟨rfl, rfl⟩, fun h => absurd rfl h⟩
  | succ f ih =>
    intro m k
    by_cases h0 : (stepP s inp m).2 = 0
    · have e2 : runP s inp (f + 1) m k = runP s inp f (stepP s inp m).1 (k + 1) := by rw [runP, if_pos h0]
      rw [e2]
      obtain ⟨a, b, c, d⟩ := ih (stepP s inp m).1 (k + 1)
      exact ⟨by omega, by omega, fun h => ⟨by have := (c h).1; omega, (c h).2⟩, fun _ => by omega⟩
    · by_cases h10 : (stepP s inp m).2 = 10
      · have e1 : runP s inp (f + 1) m k = (0, 0, (stepP s inp m).1, k + 1) := by rw [runP, if_neg h0, if_pos h10]
        rw [e1]
        exact ⟨Nat.le_succ _, by show k + 1 ≤ _; omega, fun h => by simp at h, fun _ => Nat.lt_succ_self _⟩
      · have e1 : runP s inp (f + 1) m k = (1, (stepP s inp m).2, (stepP s inp m).1, k + 1) := by rw [runP, if_neg h0, if_neg h10]
        rw [e1]
        exact ⟨Nat.le_succ _, by show k + 1 ≤ _; omega, fun h => by simp at h, fun _ => Nat.lt_succ_self _⟩
theorem el_rise (E : Nat → Bool) (i : Nat) (h0 : 1 ≤ i) (h : i < (el E).length) : (el E)[i - 1]?.getD 0 < (el E)[i]?.getD 0 := by
  have hp : (el E).Pairwise (· < ·) := List.Pairwise.filter _ List.pairwise_lt_range
  rw [List.getElem?_eq_getElem (by omega), List.getElem?_eq_getElem h]
  exact List.pairwise_iff_getElem.1 hp (i - 1) i (by omega) h (by omega)
theorem el_sub (E F : Nat → Bool) (h : ∀ i, E i = true → F i = true) (x : Nat) (hx : x ∈ el E) : x ∈ el F := by
  have := List.mem_filter.1 hx
  exact List.mem_filter.2 ⟨this.1, h x this.2⟩
end Im

/-- WITH MORE FUEL: what Fuel asks. -/
structure Mor (a b : Rp) (fuel : Nat) : Prop where
  st : a.k ≤ fuel
  up : ∀ i, 1 ≤ i → i < a.eds.length → a.eds[i - 1]?.getD 0 < a.eds[i]?.getD 0
  sub : ∀ x, x ∈ a.eds → x ∈ b.eds
  two : a.en = 2 → a.k = fuel ∧ fuel ≤ b.k ∧ a.sts = [] ∧ a.kd = 0 ∧ a.top = -1
  not : a.en ≠ 2 → b = a ∧ 0 < a.k
theorem mor_of (s inp : ByteArray) (fuel more : Nat) (h : fuel ≤ more) : Mor (ofR (Im.runP s inp fuel (Im.st0 s) 0)) (ofR (Im.runP s inp more (Im.st0 s) 0)) fuel := by
  obtain ⟨d, rfl⟩ : ∃ d, more = fuel + d := ⟨more - fuel, by omega⟩
  have ha := Im.runP_add s inp fuel d (Im.st0 s) 0
  obtain ⟨_, h2, h3, h4⟩ := Im.runP_steps s inp fuel (Im.st0 s) 0
  by_cases h5 : (Im.runP s inp fuel (Im.st0 s) 0).1 = 2
  · rw [if_pos h5] at ha
    have hb := Im.runP_steps s inp d (Im.runP s inp fuel (Im.st0 s) 0).2.2.1 (Im.runP s inp fuel (Im.st0 s) 0).2.2.2
    have he := Im.runP_edg s inp d (Im.runP s inp fuel (Im.st0 s) 0).2.2.1 (Im.runP s inp fuel (Im.st0 s) 0).2.2.2
    rw [ha]
    obtain ⟨h31, h32⟩ := h3 h5
    refine ⟨by show (Im.runP s inp fuel (Im.st0 s) 0).2.2.2 ≤ fuel; omega, Im.el_rise _, Im.el_sub _ _ he, fun _ => ⟨by show (Im.runP s inp fuel (Im.st0 s) 0).2.2.2 = fuel; omega, by have := hb.1; show fuel ≤ (Im.runP s inp d (Im.runP s inp fuel (Im.st0 s) 0).2.2.1 (Im.runP s inp fuel (Im.st0 s) 0).2.2.2).2.2.2; omega, ?_, h32, ?_⟩, fun h => absurd h5 h⟩
    · show rsts _ = []
      unfold rsts; rw [if_neg (by rw [h5]; decide)]
    · show rtop _ = -1
      unfold rtop; rw [if_neg (by rw [h5]; decide)]
  · rw [if_neg h5] at ha
    rw [ha]
    exact ⟨by show (Im.runP s inp fuel (Im.st0 s) 0).2.2.2 ≤ fuel; omega, Im.el_rise _, fun x hx => hx, fun h => absurd h h5, fun _ => ⟨rfl, h4 h5⟩⟩

theorem run_calB (s inp : ByteArray) (n : Nat) (ho : Im.Okay s n) : ∀ f m k, Im.Good s inp n m → (Im.runP s inp f m k).2.2.1.cal.length ≤ 8 := by
  intro f
  induction f with
  | zero => intro m k hg; exact hg.hcl
  | succ f ih =>
    intro m k hg
    unfold Im.runP
    by_cases h0 : (Im.stepP s inp m).2 = 0
    · rw [if_pos h0]; exact ih _ _ (Im.good_step s inp n m ho hg h0)
    · have hs := Im.step_stays s inp m h0
      rw [if_neg h0]
      by_cases h10 : (Im.stepP s inp m).2 = 10
      · rw [if_pos h10]; show (Im.stepP s inp m).1.cal.length ≤ 8; rw [hs]; exact hg.hcl
      · rw [if_neg h10]; show (Im.stepP s inp m).1.cal.length ≤ 8; rw [hs]; exact hg.hcl
theorem outP_stsB (s inp : ByteArray) (fuel : Int) : (outP s inp fuel).1.sts.length ≤ 8 := by
  unfold outP
  by_cases h : (Im.chk s).1 ≠ 0
  · rw [if_pos h]; simp [rz]
  · rw [if_neg h]
    have hc := chk_zero s (by omega)
    have ho := Im.okay_of s hc
    split
    · simp [rz]
    · split
      · simp [rz]
      · show (rsts _).length ≤ 8
        unfold rsts
        split
        · rw [List.length_reverse]
          exact run_calB s inp _ ho _ _ _ (Im.good_start s inp _ ho)
        · simp

/-- the run that Fuel opens with. -/
theorem out_trap : (outP ⟨#[1, 1, 17]⟩ ⟨#[]⟩ 9).1.en = 1 ∧ (outP ⟨#[1, 1, 17]⟩ ⟨#[]⟩ 9).2.1 = 0 := by
  constructor <;> decide
end Go.Proofs.YtbmaiioecnmopaaGreatDoor
