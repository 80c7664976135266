/-
  THE PLAIN MATHEMATICS of images, second part: which texts are images. By the verifier of the loop 'triage'.
-/
import Derived.Test.YthljaemhgkepoaaDoorPure
namespace Go.Proofs.YthljaemhgkepoaaDoor
namespace Im

/-- the first answer among n numbers from f on. -/
def firstF (g : Nat → Option Nat) : Nat → Nat → Option Nat
  | 0, _ => none
  | n + 1, f => match g f with
    | some p => some p
    | none => firstF g n (f + 1)
theorem firstF_hit (g : Nat → Option Nat) (n f p : Nat) (h : f < n) (hg : g f = some p) : firstF g (n - f) f = some p := by
  rw [show n - f = (n - f - 1) + 1 by omega]; simp only [firstF]; rw [hg]
theorem firstF_miss (g : Nat → Option Nat) (n f : Nat) (h : f < n) (hg : g f = none) : firstF g (n - f) f = firstF g (n - (f + 1)) (f + 1) := by
  rw [show n - f = (n - (f + 1)) + 1 by omega]; simp only [firstF]; rw [hg]
theorem firstF_done (g : Nat → Option Nat) (n f : Nat) (h : n ≤ f) : firstF g (n - f) f = none := by
  rw [show n - f = 0 by omega]; rfl
theorem firstF_none (g : Nat → Option Nat) : ∀ n f, firstF g n f = none → ∀ k, f ≤ k → k < f + n → g k = none := by
  intro n
  induction n with
  | zero => intro f _ k h1 h2; omega
  | succ n ih =>
    intro f h k h1 h2
    simp only [firstF] at h
    cases hg : g f with
    | some p => rw [hg] at h; simp at h
    | none =>
      rw [hg] at h
      by_cases he : k = f
      · rw [he]; exact hg
      · exact ih (f + 1) h k (by omega) (by omega)

/-- function f's instructions. -/
def fn (s : ByteArray) (f : Nat) : List Nat × Option Nat := run s (st s (f + 1)) (st s f)
def gOp (s : ByteArray) (f : Nat) : Option Nat := (fn s f).2
def gJump (s : ByteArray) (n f : Nat) : Option Nat := jmp s (st s f) n (fn s f).1 (fn s f).1
def lastI (L : List Nat) : Nat := L[L.length - 1]?.getD 0
def gFall (s : ByteArray) (f : Nat) : Option Nat :=
  if bt s (lastI (fn s f).1) = 0 ∨ bt s (lastI (fn s f).1) = 10 ∨ bt s (lastI (fn s f).1) = 17 then none else some (lastI (fn s f).1)

/-- P2: the error and the place. -/
def chk (s : ByteArray) : Int × Int :=
  if 200 < s.size then (1, 0) else
  match hd s with
  | some p => (2, p)
  | none =>
    match firstF (gOp s) (bt s 0) 0 with
    | some p => (3, p)
    | none =>
      match firstF (gJump s (bt s 0)) (bt s 0) 0 with
      | some p => (4, p)
      | none =>
        match firstF (gFall s) (bt s 0) 0 with
        | some p => (5, p)
        | none => (0, 0)

theorem hscan_none (s : ByteArray) : ∀ n i, hscan s n i = none → ∀ k, i ≤ k → k < i + n → okLen s k = true := by
  intro n
  induction n with
  | zero => intro i _ k h1 h2; omega
  | succ n ih =>
    intro i h k h1 h2
    simp only [hscan] at h
    by_cases hk : okLen s i = true
    · rw [if_pos hk] at h
      by_cases he : k = i
      · rw [he]; exact hk
      · exact ih (i + 1) h k (by omega) (by omega)
    · rw [if_neg hk] at h; simp at h
/-- what a good head gives. -/
theorem hd_none (s : ByteArray) (h : hd s = none) : 1 ≤ bt s 0 ∧ bt s 0 ≤ 6 ∧ 0 < s.size ∧ st s (bt s 0) = s.size ∧ ∀ f, f < bt s 0 → f + 1 < s.size ∧ 1 ≤ bt s (f + 1) ∧ bt s (f + 1) ≤ 60 := by
  unfold hd at h
  by_cases h0 : s.size = 0 ∨ bt s 0 < 1 ∨ 6 < bt s 0
  · rw [if_pos h0] at h; simp at h
  · rw [if_neg h0] at h
    cases hs : hscan s (bt s 0) 1 with
    | some i => rw [hs] at h; simp at h
    | none =>
      rw [hs] at h
      simp only at h
      by_cases h1 : s.size < st s (bt s 0)
      · rw [if_pos h1] at h; simp at h
      · rw [if_neg h1] at h
        by_cases h2 : st s (bt s 0) < s.size
        · rw [if_pos h2] at h; simp at h
        · refine ⟨by omega, by omega, by omega, by omega, ?_⟩
          intro f hf
          have hk := hscan_none s _ _ hs (f + 1) (by omega) (by omega)
          unfold okLen at hk
          simp at hk
          exact ⟨hk.1.1, hk.1.2, hk.2⟩
theorem st_le (s : ByteArray) (a b : Nat) (h : a ≤ b) : st s a ≤ st s b := by
  induction b with
  | zero => rw [show a = 0 by omega]; exact Nat.le_refl _
  | succ b ih =>
    by_cases he : a = b + 1
    · rw [he]; exact Nat.le_refl _
    · have := ih (by omega); show st s a ≤ st s b + bt s (b + 1); omega
theorem st_in (s : ByteArray) (h : hd s = none) (f : Nat) (hf : f < bt s 0) : st s f < st s (f + 1) ∧ st s (f + 1) ≤ s.size := by
  obtain ⟨_, _, _, h4, h5⟩ := hd_none s h
  have h6 := (h5 f hf).2.1
  have h7 := st_le s (f + 1) (bt s 0) (by omega)
  rw [h4] at h7
  exact ⟨by show st s f < st s f + bt s (f + 1); omega, h7⟩
theorem fn_mem (s : ByteArray) (f c : Nat) (h : c ∈ (fn s f).1) : st s f ≤ c ∧ c < st s (f + 1) ∧ c + sz (bt s c) ≤ st s (f + 1) ∧ 1 ≤ sz (bt s c) :=
  run_mem s (st s (f + 1)) (st s (f + 1) - st s f) (st s f) (by omega) c h
theorem run_len (s : ByteArray) (to : Nat) : ∀ n p, to - p ≤ n → (run s to p).1.length ≤ to - p := by
  intro n
  induction n with
  | zero => intro p h; rw [run_end s to p (by omega)]; simp
  | succ n ih =>
    intro p h
    by_cases hp : p < to
    · by_cases hb : sz (bt s p) = 0 ∨ to < p + sz (bt s p)
      · rw [run_bad s to p hp hb]; simp
      · rw [run_step s to p hp hb]
        have := ih (p + sz (bt s p)) (by omega)
        simp only [List.length_cons]; omega
    · rw [run_end s to p hp]; simp
theorem fn_len (s : ByteArray) (f : Nat) : (fn s f).1.length ≤ st s (f + 1) - st s f := run_len s _ _ _ (Nat.le_refl _)
theorem run_ne (s : ByteArray) (to p : Nat) (hp : p < to) (h : (run s to p).2 = none) : 0 < (run s to p).1.length := by
  by_cases hb : sz (bt s p) = 0 ∨ to < p + sz (bt s p)
  · rw [run_bad s to p hp hb] at h; simp at h
  · rw [run_step s to p hp hb]; simp
theorem lastI_mem (L : List Nat) (h : 0 < L.length) : lastI L ∈ L := by
  unfold lastI; rw [List.getElem?_eq_getElem (by omega)]; simp
end Im
end Go.Proofs.YthljaemhgkepoaaDoor
