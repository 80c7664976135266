/-
  THE DOCUMENT's SIDE (package triageref): size, has. By the verifier of the loop 'triage'.
-/
import Derived.Test.YthljaemhgkepoaaDoorProg
import Derived.Test.YthljaemhgkepoaaDoorPure
import Derived.WalkKit
import Derived.WalkSpells
import Derived.WalkLawsBesides
namespace Go.Proofs.YthljaemhgkepoaaDoor
open Go.RowKit

theorem ret_int {k : IntKind} {a b : Int} (h : a = b) : Ending.returned (.int k a) = .returned (.int k b) := by rw [h]
theorem ret_bool {a b : Bool} (h : a = b) : Ending.returned (.bool a) = .returned (.bool b) := by rw [h]

theorem sz_none (c : Int) (h : 17 < c) : (0 : Int) = ((Im.sz c.toNat : Nat) : Int) := by
  unfold Im.sz; rw [if_pos (by omega)]; rfl
theorem sz_two (c : Int) (h1 : c ≤ 17) (h : c = 1 ∨ c = 10 ∨ c = 11 ∨ c = 12) : (2 : Int) = ((Im.sz c.toNat : Nat) : Int) := by
  unfold Im.sz; rw [if_neg (by omega), if_pos (by omega)]; rfl
theorem sz_one (c : Int) (h0 : 0 ≤ c) (h1 : c ≤ 17) (h : ¬ (c = 1 ∨ c = 10 ∨ c = 11 ∨ c = 12)) : (1 : Int) = ((Im.sz c.toNat : Nat) : Int) := by
  unfold Im.sz; rw [if_neg (by omega), if_neg (by omega)]; rfl

set_option maxHeartbeats 400000 in
theorem size_any (c : Int) (w : World) (h0 : 0 ≤ c) (_h1 : c < 256) :
    Calls Tryd.prog 35 #[.int .u8 c] w fun e w' => e = .returned (.int .i64 (Im.sz c.toNat)) ∧ w = w' := by
  go_enter Tryd.func35, Tryd.ntmps35
  go_wp2
  all_goals
    go_ret
    refine ⟨ret_int ?_, rfl⟩
  · exact sz_none c (by assumption)
  · exact sz_two c (by omega) (by omega)
  · exact sz_two c (by omega) (by omega)
  · exact sz_two c (by omega) (by omega)
  · rename_i h; simp only [beq_iff_eq] at h; exact sz_two c (by assumption) (by omega)
  · rename_i h; simp only [beq_eq_false_iff_ne] at h; exact sz_one c h0 (by assumption) (by omega)

theorem not_take_succ (xs : List Int) (n : Int) (k : Nat) (h : n ∉ xs.take k) (hk : k < xs.length) (hne : xs[k]?.getD 0 ≠ n) : n ∉ xs.take (k + 1) := by
  rw [List.take_succ_eq_append_getElem hk]
  intro hm
  rcases List.mem_append.1 hm with hm | hm
  · exact h hm
  · simp at hm; simp [List.getElem?_eq_getElem hk] at hne; exact hne hm.symm

def hasB (xs : List Int) (n : Int) : Bool := decide (n ∈ xs)
-- 'has': whatever slice of numbers.
set_option maxHeartbeats 400000 in
theorem has_any (b off len cap : Nat) (xs : List Int) (n : Int) (w : World) (hl : xs.length = len) (hm : len ≤ 100000)
    (hc : ∀ k, k < len → w.cell? ⟨b, off + k, none⟩ = some (.int .i64 (xs.getD k 0))) :
    Calls Tryd.prog 36 #[.slice (some ⟨b, off, none⟩) len cap, .int .i64 n] w fun e w' => e = .returned (.bool (hasB xs n)) ∧ w = w' := by
  have HL : Hid (xs.length = len) := hl
  clear hl
  go_enter Tryd.func36, Tryd.ntmps36
  go_wp2
  go_loop [5] (fun i => ∃ k : Nat, k ≤ len ∧ i = .int .i64 k ∧ n ∉ xs.take k) (fun i => len - (intOf i).toNat)
  case atStart => exact ⟨0, Nat.zero_le _, rfl, by simp⟩
  case round =>
    obtain ⟨k, hk, rfl, hn⟩ := hrel
    by_cases hlt : k < len
    · have hck := hc k hlt
      by_cases hx : xs[k]?.getD 0 = n
      · have hx' : (xs[k]?.getD 0 == n) = true := by simpa using hx
        have HX : Hid (xs[k]?.getD 0 = n) := hx
        clear hx
        go_wp2
        go_ret
        refine ⟨ret_bool ?_, rfl⟩
        have h1 := HX.out
        have h2 := HL.out
        symm; unfold hasB; rw [decide_eq_true_iff, ← h1, List.getElem?_eq_getElem (by omega)]
        simp
      · have hx' : (xs[k]?.getD 0 == n) = false := by simpa using hx
        have HX : Hid (¬ xs[k]?.getD 0 = n) := hx
        clear hx
        go_wp2
        go_round
        case rel => exact ⟨k + 1, by omega, by go_num, not_take_succ xs n k hn (by rw [HL.out]; exact hlt) HX.out⟩
        case measure => simp [intOf]; omega
    · go_wp2
      go_ret
      refine ⟨ret_bool ?_, rfl⟩
      rw [List.take_of_length_le (by rw [HL.out]; omega)] at hn
      simp [hasB, hn]
end Go.Proofs.YthljaemhgkepoaaDoor
