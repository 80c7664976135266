/-
  THE PROGRAM's SIDE (package triage): crashesSo, without, blanked. By the verifier of the loop 'triage'.
-/
import Derived.Test.YtbmaiioecnmopaaGreatDoorJ34
import Derived.Test.YtbmaiioecnmopaaGreatDoorJ32
namespace Go.Proofs.YtbmaiioecnmopaaGreatDoor
open Go.RowKit

set_option maxHeartbeats 800000 in
theorem without_any (t : ByteArray) (i : Nat) (w : World) (hi : i < t.size) (ht : t.size ≤ 24) :
    Calls Tryz.prog 81 #[.string t, .int .i64 (i : Nat)] w fun e w' => e = .returned (.string (Sh.cut t i)) ∧ Below w.heap.size w w' := by
  go_enter Tryz.func81, Tryz.ntmps81
  go_wp2
  go_quiet (fail)
  go_wp2
  go_ret
  exact ⟨rfl, below_drewP _ (Below.refl _ _)⟩
set_option maxHeartbeats 800000 in
theorem blanked_any (t : ByteArray) (i : Nat) (w : World) (hi : i < t.size) (ht : t.size ≤ 24) :
    Calls Tryz.prog 83 #[.string t, .int .i64 (i : Nat)] w fun e w' => e = .returned (.string (Sh.blk t i)) ∧ Below w.heap.size w w' := by
  go_enter Tryz.func83, Tryz.ntmps83
  go_wp2
  go_quiet (fail)
  go_wp2
  go_ret
  exact ⟨rfl, below_drewP _ (Below.refl _ _)⟩

theorem run_equalIn_ints {P : Program} (D : Nat) (t elem : TypeId) (len : Nat) (xs ys : Array Value) (f g : Nat → Int) (ht : P.underlying t = some (.array len elem))
    (hD : ∀ (a b : Int) (W : World), (Op.equalIn D elem (.int .i64 a) (.int .i64 b)).run P W = .ok (a == b) W)
    (hs : ∀ W : World, (sizeOf elem).run P W = .ok 1 W) (hx : ∀ i, i < len → ∀ W : World, (part elem xs i).run P W = .ok (.int .i64 (f i)) W) (hy : ∀ i, i < len → ∀ W : World, (part elem ys i).run P W = .ok (.int .i64 (g i)) W) (w : World) :
    (Op.equalIn (D + 1) t (.agg xs) (.agg ys)).run P w = .ok (decide (∀ i, i < len → f i = g i)) w := by
  have key : ∀ (l : List Nat), (∀ i ∈ l, i < len) → ∀ W : World, (forIn (m := Sem) l ((none : Option Bool), ()) (fun i _ => do
        let a ← part elem xs (i * 1)
        let b ← part elem ys (i * 1)
        let e ← Op.equalIn D elem a b
        if (!e) = true then pure (ForInStep.done (some false, ())) else pure (ForInStep.yield (none, ())))).run P W = .ok (if (∀ i ∈ l, f i = g i) then (none, ()) else (some false, ())) W := by
    intro l
    induction l with
    | nil => intro _ W; simp
    | cons i l ih =>
      intro hl W
      have hi := hl i (by simp)
      have ih' := ih (fun j hj => hl j (by simp [hj])) W
      simp only [List.forIn_cons, Sem.run_bind, Nat.mul_one, hx i hi, hy i hi, Result.andThen_ok, hD]
      by_cases h : f i = g i
      · simp [h] at ih' ⊢
        exact ih'
      · simp [h]
  simp only [Op.equalIn, Sem.run_bind, run_underlying ht, Result.andThen_ok, hs]
  rw [Std.Legacy.Range.forIn_eq_forIn_range']
  have k2 := key (List.range' 0 len 1) (by intro i hi; simp at hi; omega) w
  simp only [Std.Legacy.Range.size]
  rw [show (len - 0 + 1 - 1) / 1 = len by omega, k2]
  by_cases h : ∀ i, i < len → f i = g i
  · have h1 : ∀ i ∈ List.range' 0 len, f i = g i := fun i hi => h i (by simp at hi; omega)
    rw [if_pos h1]
    simp only [Result.andThen_ok, Sem.run_pure]
    rw [decide_eq_true h]
  · have h1 : ¬ ∀ i ∈ List.range' 0 len, f i = g i := fun hh => h fun i hi => hh i (by simp; omega)
    rw [if_neg h1]
    simp only [Result.andThen_ok, Sem.run_pure]
    rw [decide_eq_false h]
theorem part_kval (k : Nat × List (Nat × Nat)) (i : Nat) (hi : i < 14) (W : World) : (part 3 #[.int .i64 (kn k 0 : Nat), .int .i64 (kn k 1 : Nat), .int .i64 (kn k 2 : Nat), .int .i64 (kn k 3 : Nat), .int .i64 (kn k 4 : Nat), .int .i64 (kn k 5 : Nat), .int .i64 (kn k 6 : Nat), .int .i64 (kn k 7 : Nat), .int .i64 (kn k 8 : Nat), .int .i64 (kn k 9 : Nat), .int .i64 (kn k 10 : Nat), .int .i64 (kn k 11 : Nat), .int .i64 (kn k 12 : Nat), .int .i64 (kn k 13 : Nat)] i).run Tryz.prog W = .ok (.int .i64 (kn k i : Nat)) W := by
  obtain rfl | rfl | rfl | rfl | rfl | rfl | rfl | rfl | rfl | rfl | rfl | rfl | rfl | rfl : i = 0 ∨ i = 1 ∨ i = 2 ∨ i = 3 ∨ i = 4 ∨ i = 5 ∨ i = 6 ∨ i = 7 ∨ i = 8 ∨ i = 9 ∨ i = 10 ∨ i = 11 ∨ i = 12 ∨ i = 13 := by omega
  all_goals go_simp
set_option maxRecDepth 200000 in
theorem equal_keys {k q : Nat × List (Nat × Nat)} (hk : k.2.length ≤ 6) (hq : q.2.length ≤ 6) (W : World) : (Op.equalIn 10000 78 (.agg #[.int .i64 (kn q 0 : Nat), .int .i64 (kn q 1 : Nat), .int .i64 (kn q 2 : Nat), .int .i64 (kn q 3 : Nat), .int .i64 (kn q 4 : Nat), .int .i64 (kn q 5 : Nat), .int .i64 (kn q 6 : Nat), .int .i64 (kn q 7 : Nat), .int .i64 (kn q 8 : Nat), .int .i64 (kn q 9 : Nat), .int .i64 (kn q 10 : Nat), .int .i64 (kn q 11 : Nat), .int .i64 (kn q 12 : Nat), .int .i64 (kn q 13 : Nat)]) (.agg #[.int .i64 (kn k 0 : Nat), .int .i64 (kn k 1 : Nat), .int .i64 (kn k 2 : Nat), .int .i64 (kn k 3 : Nat), .int .i64 (kn k 4 : Nat), .int .i64 (kn k 5 : Nat), .int .i64 (kn k 6 : Nat), .int .i64 (kn k 7 : Nat), .int .i64 (kn k 8 : Nat), .int .i64 (kn k 9 : Nat), .int .i64 (kn k 10 : Nat), .int .i64 (kn k 11 : Nat), .int .i64 (kn k 12 : Nat), .int .i64 (kn k 13 : Nat)])).run Tryz.prog W = .ok (decide (q = k)) W := by
  have h := run_equalIn_ints (P := Tryz.prog) 9999 78 3 14 #[.int .i64 (kn q 0 : Nat), .int .i64 (kn q 1 : Nat), .int .i64 (kn q 2 : Nat), .int .i64 (kn q 3 : Nat), .int .i64 (kn q 4 : Nat), .int .i64 (kn q 5 : Nat), .int .i64 (kn q 6 : Nat), .int .i64 (kn q 7 : Nat), .int .i64 (kn q 8 : Nat), .int .i64 (kn q 9 : Nat), .int .i64 (kn q 10 : Nat), .int .i64 (kn q 11 : Nat), .int .i64 (kn q 12 : Nat), .int .i64 (kn q 13 : Nat)] #[.int .i64 (kn k 0 : Nat), .int .i64 (kn k 1 : Nat), .int .i64 (kn k 2 : Nat), .int .i64 (kn k 3 : Nat), .int .i64 (kn k 4 : Nat), .int .i64 (kn k 5 : Nat), .int .i64 (kn k 6 : Nat), .int .i64 (kn k 7 : Nat), .int .i64 (kn k 8 : Nat), .int .i64 (kn k 9 : Nat), .int .i64 (kn k 10 : Nat), .int .i64 (kn k 11 : Nat), .int .i64 (kn k 12 : Nat), .int .i64 (kn k 13 : Nat)] (fun i => ((kn q i : Nat) : Int)) (fun i => ((kn k i : Nat) : Int)) (by kernel_rfl) (fun a b W => run_equalIn_int W 9998 3 .i64 .i64 a b (by kernel_rfl)) (fun W => by kernel_rfl) (fun i hi W => part_kval q i hi W) (fun i hi W => part_kval k i hi W) W
  rw [h]
  congr 1
  by_cases e : q = k
  · subst e
    rw [decide_eq_true rfl, decide_eq_true (fun _ _ => rfl)]
  · rw [decide_eq_false e, decide_eq_false (fun hh => e (kn_inj hq hk fun i hi => by have := hh i hi; omega))]
theorem ky_len {s inp : ByteArray} {fuel d : Nat} {k : Nat × List (Nat × Nat)} (h : ky s fuel d inp = some k) : k.2.length ≤ d := by
  obtain ⟨-, rfl⟩ := ky_some h
  simp [List.length_take]; omega

set_option maxHeartbeats 1600000 in
set_option maxRecDepth 100000 in
theorem crashesSo_any (s inp : ByteArray) (fuel d B : Nat) (k : Nat × List (Nat × Nat)) (w : World) (hc : Im.chk s = (0, 0)) (hi : inp.size ≤ 24) (hf : fuel ≤ 2000) (hd : d ≤ 6) (hk : k.2.length ≤ 6) (hS : SetM s fuel d B w) :
    Calls Tryz.prog 82 #[.pointer (some ⟨B, 0, none⟩), .string inp, kval k] w fun e w' => e = .returned (.bool (hit s fuel d k inp)) ∧ Below w.heap.size w w' := by
  obtain ⟨hh, HH⟩ : ∃ hh, Hid (hit s fuel d k inp = hh) := ⟨_, rfl⟩
  rw [HH.out]
  have HS : Hid (SetM s fuel d B w) := hS
  clear hS
  unfold kval
  go_enter Tryz.func82, Tryz.ntmps82
  go_wp2_with fail
  refine (crash_any s inp fuel d B _ hc hi hf hd (HS.out.below ((Below.refl _ _).alloc (Nat.le_refl _) _))).mono ?_
  rintro e w1 ⟨hb1, hm⟩
  have HB : Hid (Below w.heap.size w w1) := below_new hb1
  have hz1 : w.heap.size < w1.heap.size := by have := hb1.size; simp at this; omega
  have hzn : w.heap.size ≠ w1.heap.size := Nat.ne_of_lt hz1
  have c1 := (hb1.block w.heap.size (by simp)).trans (rheap_new _ _)
  cases hq : ky s fuel d inp with
  | none =>
    rw [hq] at hm
    subst hm
    have HF : Hid (hh = false) := by
      show hh = false
      rw [← HH.out]; unfold hit; rw [hq]; simp
    clear hb1 c1 HS
    unfold kz
    go_wp2
    go_ret
    exact ⟨by rw [HF.out]; first | done | rfl, HB.out.alloc (Nat.le_of_lt hz1) _⟩
  | some q =>
    rw [hq] at hm
    subst hm
    have hq6 : q.2.length ≤ 6 := Nat.le_trans (ky_len hq) hd
    have HF : Hid (hh = decide (q = k)) := by
      show hh = decide (q = k)
      rw [← HH.out]; unfold hit; rw [hq]; simp
    have hwc : ∀ o, o < 14 → w1.cell? ⟨w.heap.size, o, none⟩ = some (.int .i64 (kn k o : Nat)) := by
      intro o ho
      refine rcell_of c1 ?_
      obtain rfl | rfl | rfl | rfl | rfl | rfl | rfl | rfl | rfl | rfl | rfl | rfl | rfl | rfl : o = 0 ∨ o = 1 ∨ o = 2 ∨ o = 3 ∨ o = 4 ∨ o = 5 ∨ o = 6 ∨ o = 7 ∨ o = 8 ∨ o = 9 ∨ o = 10 ∨ o = 11 ∨ o = 12 ∨ o = 13 := by omega
      all_goals rfl
    have heq := equal_keys hk hq6
    rw [← HF.out] at heq
    clear hb1 c1 HS
    unfold kval
    go_wp2
    go_ret
    exact ⟨rfl, HB.out.alloc (Nat.le_of_lt hz1) _⟩
end Go.Proofs.YtbmaiioecnmopaaGreatDoor
