/-
  THE PROGRAM's SIDE (package triage): keyOf. By the verifier of the loop 'triage'.
-/
import Derived.Test.YtbmaiioecnmopaaGreatDoorJ28
import Derived.Test.YtbmaiioecnmopaaGreatDoorJ08
import Derived.Test.YtbmaiioecnmopaaGreatDoorJ30
namespace Go.Proofs.YtbmaiioecnmopaaGreatDoor
open Go.RowKit

/-- number i of a key's array, of whose sites the first j are laid. -/
def kp (k : Nat × List (Nat × Nat)) (j i : Nat) : Nat :=
  if i = 0 then k.1 else if i = 1 then k.2.length else if i < 2 + 2 * j then (if i % 2 = 0 then (k.2[(i - 2) / 2]?.getD (0, 0)).1 else (k.2[(i - 2) / 2]?.getD (0, 0)).2) else 0
/-- the key's array. -/
def kn (k : Nat × List (Nat × Nat)) (i : Nat) : Nat := kp k 6 i
/-- the array as a value. -/
def kval (k : Nat × List (Nat × Nat)) : Value :=
  .agg #[.int .i64 (kn k 0 : Nat), .int .i64 (kn k 1 : Nat), .int .i64 (kn k 2 : Nat), .int .i64 (kn k 3 : Nat), .int .i64 (kn k 4 : Nat), .int .i64 (kn k 5 : Nat), .int .i64 (kn k 6 : Nat), .int .i64 (kn k 7 : Nat), .int .i64 (kn k 8 : Nat), .int .i64 (kn k 9 : Nat), .int .i64 (kn k 10 : Nat), .int .i64 (kn k 11 : Nat), .int .i64 (kn k 12 : Nat), .int .i64 (kn k 13 : Nat)]
theorem kp_end (k : Nat × List (Nat × Nat)) (j i : Nat) (h : k.2.length ≤ j) (hj : j ≤ 6) : kp k j i = kp k 6 i := by
  unfold kp
  by_cases h0 : i = 0
  · rw [if_pos h0, if_pos h0]
  · rw [if_neg h0, if_neg h0]
    by_cases h1 : i = 1
    · rw [if_pos h1, if_pos h1]
    · rw [if_neg h1, if_neg h1]
      by_cases h2 : i < 2 + 2 * j
      · rw [if_pos h2, if_pos (show i < 2 + 2 * 6 by omega)]
      · rw [if_neg h2]
        split
        · rw [List.getElem?_eq_none (by omega)]; split <;> rfl
        · rfl
theorem kp_step (k : Nat × List (Nat × Nat)) (j i : Nat) : kp k (j + 1) i = if i = 3 + 2 * j then (k.2[j]?.getD (0, 0)).2 else if i = 2 + 2 * j then (k.2[j]?.getD (0, 0)).1 else kp k j i := by
  unfold kp
  by_cases h3 : i = 3 + 2 * j
  · rw [if_pos h3, if_neg (by omega), if_neg (by omega), if_pos (by omega), if_neg (by omega), show (i - 2) / 2 = j by omega]
  · rw [if_neg h3]
    by_cases h2 : i = 2 + 2 * j
    · rw [if_pos h2, if_neg (by omega), if_neg (by omega), if_pos (by omega), if_pos (by omega), show (i - 2) / 2 = j by omega]
    · rw [if_neg h2]
      by_cases h0 : i = 0
      · rw [if_pos h0, if_pos h0]
      · rw [if_neg h0, if_neg h0]
        by_cases h1 : i = 1
        · rw [if_pos h1, if_pos h1]
        · rw [if_neg h1, if_neg h1]
          by_cases h4 : i < 2 + 2 * j
          · rw [if_pos h4, if_pos (by omega)]
          · rw [if_neg h4, if_neg (by omega)]
theorem kn_inj {k q : Nat × List (Nat × Nat)} (hk : k.2.length ≤ 6) (hq : q.2.length ≤ 6) (h : ∀ i, i < 14 → kn k i = kn q i) : k = q := by
  obtain ⟨k1, k2⟩ := k
  obtain ⟨q1, q2⟩ := q
  have h0 := h 0 (by omega)
  have h1 := h 1 (by omega)
  simp only [kn, kp] at h0 h1
  simp at h0 h1
  subst h0
  have : k2 = q2 := by
    apply List.ext_getElem? 
    intro j
    by_cases hj : j < k2.length
    · have a := h (2 + 2 * j) (by dsimp only at hk; omega)
      have b := h (3 + 2 * j) (by dsimp only at hk; omega)
      simp only [kn, kp] at a b
      rw [if_neg (by omega), if_neg (by omega), if_pos (by dsimp only at hk; omega), if_pos (by omega), if_neg (by omega), if_neg (by omega), if_pos (by dsimp only at hk; omega), if_pos (by omega)] at a
      rw [if_neg (by omega), if_neg (by omega), if_pos (by dsimp only at hk; omega), if_neg (by omega), if_neg (by omega), if_neg (by omega), if_pos (by dsimp only at hk; omega), if_neg (by omega)] at b
      rw [show (2 + 2 * j - 2) / 2 = j by omega] at a
      rw [show (3 + 2 * j - 2) / 2 = j by omega] at b
      have hj2 : j < q2.length := by omega
      rw [List.getElem?_eq_getElem hj, List.getElem?_eq_getElem hj2] at a b ⊢
      simp only [Option.getD_some] at a b
      exact congrArg some (Prod.ext a b)
    · rw [List.getElem?_eq_none (by omega), List.getElem?_eq_none (by omega)]
  rw [this]

theorem kp_zero (k : Nat × List (Nat × Nat)) (o : Nat) (h : 2 ≤ o) : kp k 0 o = 0 := by unfold kp; rw [if_neg (by omega), if_neg (by omega), if_neg (by omega)]
theorem wrap_mul2 (j : Nat) (h : j ≤ 50) : IntKind.wrap .i64 (2 * ((j : Nat) : Int)) = 2 * ((j : Nat) : Int) := by
  have := wrap_small (2 * j) (by omega)
  simpa using this
theorem wrap_add2 (c j : Nat) (hc : c ≤ 50) (h : j ≤ 50) : IntKind.wrap .i64 (((c : Nat) : Int) + 2 * ((j : Nat) : Int)) = ((c : Nat) : Int) + 2 * ((j : Nat) : Int) := by
  have := wrap_small (c + 2 * j) (by omega)
  simpa using this
theorem bx_congr {b c : Nat} {L M : Nat → Value} {w : World} (h : Bx b c L w) (e : ∀ o, o < c → L o = M o) : Bx b c M w := ⟨fun o ho => by rw [← e o ho]; exact h.cell o ho, h.frz, h.lt⟩
theorem bx_other {b c b' o : Nat} {L : Nat → Value} {w : World} {v : Value} (h : Bx b c L w) (hb : b ≠ b') : Bx b c L (w.setCell ⟨b', o, none⟩ v) :=
  ⟨fun i hi => (World.cell?_setCell_other _ _ _ _ (fun e => hb (congrArg Addr.block e).symm)).trans (h.cell i hi), fun i => (World.frozen?_setCell _ _ _ _).trans (h.frz i), by simpa using h.lt⟩
theorem key_round {k : Nat × List (Nat × Nat)} {j : Nat} {w wr : World} (hk : Bx (w.heap.size + 1) 14 (fun o => .int .i64 (kp k j o : Nat)) wr) (hr : Bx w.heap.size 14 (fun _ => .int .i64 0) wr) (hB : Below w.heap.size w wr) (hj : j < 6) (o : Obj) :
    Bx (w.heap.size + 1) 14 (fun i => .int .i64 (kp k (j + 1) i : Nat)) (((wr.setCell ⟨w.heap.size + 1, 2 + 2 * j, none⟩ (.int .i64 ((k.2[j]?.getD (0, 0)).1 : Nat))).setCell ⟨w.heap.size + 1, 3 + 2 * j, none⟩ (.int .i64 ((k.2[j]?.getD (0, 0)).2 : Nat))).alloc o) ∧ Bx w.heap.size 14 (fun _ => .int .i64 0) (((wr.setCell ⟨w.heap.size + 1, 2 + 2 * j, none⟩ (.int .i64 ((k.2[j]?.getD (0, 0)).1 : Nat))).setCell ⟨w.heap.size + 1, 3 + 2 * j, none⟩ (.int .i64 ((k.2[j]?.getD (0, 0)).2 : Nat))).alloc o) ∧ Below w.heap.size w (((wr.setCell ⟨w.heap.size + 1, 2 + 2 * j, none⟩ (.int .i64 ((k.2[j]?.getD (0, 0)).1 : Nat))).setCell ⟨w.heap.size + 1, 3 + 2 * j, none⟩ (.int .i64 ((k.2[j]?.getD (0, 0)).2 : Nat))).alloc o) := by
  refine ⟨?_, ?_, ?_⟩
  · refine Bx.alloc ?_ _
    refine bx_congr ((hk.set (2 + 2 * j) (.int .i64 ((k.2[j]?.getD (0, 0)).1 : Nat)) (by omega)).set (3 + 2 * j) (.int .i64 ((k.2[j]?.getD (0, 0)).2 : Nat)) (by omega)) ?_
    intro i _
    simp only [updV, kp_step]
    split
    · rfl
    · split <;> rfl
  · exact Bx.alloc (bx_other (bx_other hr (by omega)) (by omega)) _
  · have h1 := (hB.setCell (p := ⟨w.heap.size + 1, 2 + 2 * j, none⟩) (by show w.heap.size ≤ w.heap.size + 1; omega) (.int .i64 ((k.2[j]?.getD (0, 0)).1 : Nat))).setCell (p := ⟨w.heap.size + 1, 3 + 2 * j, none⟩) (by show w.heap.size ≤ w.heap.size + 1; omega) (.int .i64 ((k.2[j]?.getD (0, 0)).2 : Nat))
    exact h1.alloc h1.size _
theorem bx_drew {b c : Nat} {L : Nat → Value} {w : World} (h : Bx b c L w) : Bx b c L w.drew := ⟨h.cell, h.frz, h.lt⟩
theorem put14_below {a w : World} {b B : Nat} {v0 v1 v2 v3 v4 v5 v6 v7 v8 v9 v10 v11 v12 v13 : Value} (h : Below B a w) (hb : B ≤ b) : Below B a ((((((((((((((w.setCell ⟨b, 0, none⟩ v0).setCell ⟨b, 1, none⟩ v1).setCell ⟨b, 2, none⟩ v2).setCell ⟨b, 3, none⟩ v3).setCell ⟨b, 4, none⟩ v4).setCell ⟨b, 5, none⟩ v5).setCell ⟨b, 6, none⟩ v6).setCell ⟨b, 7, none⟩ v7).setCell ⟨b, 8, none⟩ v8).setCell ⟨b, 9, none⟩ v9).setCell ⟨b, 10, none⟩ v10).setCell ⟨b, 11, none⟩ v11).setCell ⟨b, 12, none⟩ v12).setCell ⟨b, 13, none⟩ v13) := ((((((((((((((h.setCell (p := ⟨b, 0, none⟩) hb _).setCell (p := ⟨b, 1, none⟩) hb _).setCell (p := ⟨b, 2, none⟩) hb _).setCell (p := ⟨b, 3, none⟩) hb _).setCell (p := ⟨b, 4, none⟩) hb _).setCell (p := ⟨b, 5, none⟩) hb _).setCell (p := ⟨b, 6, none⟩) hb _).setCell (p := ⟨b, 7, none⟩) hb _).setCell (p := ⟨b, 8, none⟩) hb _).setCell (p := ⟨b, 9, none⟩) hb _).setCell (p := ⟨b, 10, none⟩) hb _).setCell (p := ⟨b, 11, none⟩) hb _).setCell (p := ⟨b, 12, none⟩) hb _).setCell (p := ⟨b, 13, none⟩) hb _)
/-- the two blocks that keyOf lays. -/
theorem key_start (k : Nat × List (Nat × Nat)) (w : World) (t t' : TypeId) : Bx (w.heap.size + 1) 14 (fun o => .int .i64 (kp k 0 o : Nat)) ((w.alloc (.cells #[.int .i64 0, .int .i64 0, .int .i64 0, .int .i64 0, .int .i64 0, .int .i64 0, .int .i64 0, .int .i64 0, .int .i64 0, .int .i64 0, .int .i64 0, .int .i64 0, .int .i64 0, .int .i64 0] t)).alloc (.cells #[.int .i64 (k.1 : Nat), .int .i64 (k.2.length : Nat), .int .i64 0, .int .i64 0, .int .i64 0, .int .i64 0, .int .i64 0, .int .i64 0, .int .i64 0, .int .i64 0, .int .i64 0, .int .i64 0, .int .i64 0, .int .i64 0] t')) ∧ Bx w.heap.size 14 (fun _ => .int .i64 0) ((w.alloc (.cells #[.int .i64 0, .int .i64 0, .int .i64 0, .int .i64 0, .int .i64 0, .int .i64 0, .int .i64 0, .int .i64 0, .int .i64 0, .int .i64 0, .int .i64 0, .int .i64 0, .int .i64 0, .int .i64 0] t)).alloc (.cells #[.int .i64 (k.1 : Nat), .int .i64 (k.2.length : Nat), .int .i64 0, .int .i64 0, .int .i64 0, .int .i64 0, .int .i64 0, .int .i64 0, .int .i64 0, .int .i64 0, .int .i64 0, .int .i64 0, .int .i64 0, .int .i64 0] t')) ∧ Below w.heap.size w ((w.alloc (.cells #[.int .i64 0, .int .i64 0, .int .i64 0, .int .i64 0, .int .i64 0, .int .i64 0, .int .i64 0, .int .i64 0, .int .i64 0, .int .i64 0, .int .i64 0, .int .i64 0, .int .i64 0, .int .i64 0] t)).alloc (.cells #[.int .i64 (k.1 : Nat), .int .i64 (k.2.length : Nat), .int .i64 0, .int .i64 0, .int .i64 0, .int .i64 0, .int .i64 0, .int .i64 0, .int .i64 0, .int .i64 0, .int .i64 0, .int .i64 0, .int .i64 0, .int .i64 0] t')) := by
  have hb := Below.refl (((w.alloc (.cells #[.int .i64 0, .int .i64 0, .int .i64 0, .int .i64 0, .int .i64 0, .int .i64 0, .int .i64 0, .int .i64 0, .int .i64 0, .int .i64 0, .int .i64 0, .int .i64 0, .int .i64 0, .int .i64 0] t)).alloc (.cells #[.int .i64 (k.1 : Nat), .int .i64 (k.2.length : Nat), .int .i64 0, .int .i64 0, .int .i64 0, .int .i64 0, .int .i64 0, .int .i64 0, .int .i64 0, .int .i64 0, .int .i64 0, .int .i64 0, .int .i64 0, .int .i64 0] t'))).heap.size ((w.alloc (.cells #[.int .i64 0, .int .i64 0, .int .i64 0, .int .i64 0, .int .i64 0, .int .i64 0, .int .i64 0, .int .i64 0, .int .i64 0, .int .i64 0, .int .i64 0, .int .i64 0, .int .i64 0, .int .i64 0] t)).alloc (.cells #[.int .i64 (k.1 : Nat), .int .i64 (k.2.length : Nat), .int .i64 0, .int .i64 0, .int .i64 0, .int .i64 0, .int .i64 0, .int .i64 0, .int .i64 0, .int .i64 0, .int .i64 0, .int .i64 0, .int .i64 0, .int .i64 0] t'))
  obtain ⟨c1, c2⟩ := two_new hb
  refine ⟨⟨?_, fun o => rfree_of c2, by simp⟩, ⟨?_, fun o => rfree_of c1, by simp; omega⟩, ((Below.refl _ _).alloc (Nat.le_refl _) _).alloc (by simp) _⟩
  · intro o ho
    refine rcell_of c2 ?_
    rcases Nat.lt_or_ge o 2 with h | h
    · obtain rfl | rfl : o = 0 ∨ o = 1 := by omega
      · rfl
      · rfl
    · rw [kp_zero k o h]
      obtain rfl | rfl | rfl | rfl | rfl | rfl | rfl | rfl | rfl | rfl | rfl | rfl : o = 2 ∨ o = 3 ∨ o = 4 ∨ o = 5 ∨ o = 6 ∨ o = 7 ∨ o = 8 ∨ o = 9 ∨ o = 10 ∨ o = 11 ∨ o = 12 ∨ o = 13 := by omega
      all_goals rfl
  · intro o ho
    refine rcell_of c1 ?_
    obtain rfl | rfl | rfl | rfl | rfl | rfl | rfl | rfl | rfl | rfl | rfl | rfl | rfl | rfl : o = 0 ∨ o = 1 ∨ o = 2 ∨ o = 3 ∨ o = 4 ∨ o = 5 ∨ o = 6 ∨ o = 7 ∨ o = 8 ∨ o = 9 ∨ o = 10 ∨ o = 11 ∨ o = 12 ∨ o = 13 := by omega
    all_goals rfl

set_option maxHeartbeats 3200000 in
set_option maxRecDepth 100000 in
theorem ckeyOf_any (A : Nat) (kd d : Nat) (sts : List (Nat × Nat)) (v : Value) (w : World) (hd : d ≤ 6) (hl : sts.length ≤ 8) (h : w.ownsRow A 34 2 v sts.length (prs sts)) :
    Calls Tryz.prog 52 #[.int .i64 (kd : Nat), v, .int .i64 (d : Nat)] w fun e w' => e = .returned (kval (kd, sts.take d)) ∧ Below w.heap.size w w' := by
  obtain ⟨k, HKD⟩ : ∃ k, Hid ((kd, sts.take d) = k) := ⟨_, rfl⟩
  rw [HKD.out]
  have HK1 : Hid (k.1 = kd) := by
    show k.1 = kd
    rw [← HKD.out]
  have hcs := fun g (hg : v.ownBlock = some g) => h.cells hg
  have hlt0 := fun g (hg : v.ownBlock = some g) => (h.lt g hg).2
  have hnil : sts.length = 0 → sts = [] := List.eq_nil_of_length_eq_zero
  obtain ⟨len, HLEN⟩ : ∃ len, Hid (sts.length = len) := ⟨_, rfl⟩
  rw [HLEN.out] at hl h hnil
  have HKL : Hid (k.2.length = min d len) := by
    show k.2.length = min d len
    rw [← HKD.out, ← HLEN.out]; simp
  have HX : Hid (∀ j, j < min d len → sts[j]?.getD (0, 0) = k.2[j]?.getD (0, 0)) := by
    show ∀ j, j < min d len → sts[j]?.getD (0, 0) = k.2[j]?.getD (0, 0)
    intro j hj
    rw [← HKD.out]
    rw [List.getElem?_take_of_lt (by omega)]
  obtain ⟨-, ⟨hv, h0⟩ | ⟨g, cap, cur, hv, -, -, hnc, hcm, -, -⟩⟩ := h
  · have hs := hnil h0
    subst hs
    have hmn : min d len = 0 := by omega
    rw [hmn] at HKL HX
    obtain rfl : len = 0 := h0
    subst hv
    have START := key_start k w 78 78
    rw [HK1.out, HKL.out] at START
    obtain ⟨n, hn⟩ : ∃ n, n = 0 := ⟨_, rfl⟩
    rw [← hn] at HKL
    have hn6 : n ≤ 6 := by omega
    clear hcs hlt0 hnil hmn
    by_cases hd0 : 0 < d
    · go_enter Tryz.func52, Tryz.ntmps52
      go_wp2
      refine wp_loop_rounds 1 ?_
      rw [rounds_succ]
      obtain ⟨hk, hr, hB⟩ := START
      have HB : Hid (Below w.heap.size w ((w.alloc (.cells #[.int .i64 0, .int .i64 0, .int .i64 0, .int .i64 0, .int .i64 0, .int .i64 0, .int .i64 0, .int .i64 0, .int .i64 0, .int .i64 0, .int .i64 0, .int .i64 0, .int .i64 0, .int .i64 0] 78)).alloc (.cells #[.int .i64 (kd : Nat), .int .i64 ((0 : Nat) : Int), .int .i64 0, .int .i64 0, .int .i64 0, .int .i64 0, .int .i64 0, .int .i64 0, .int .i64 0, .int .i64 0, .int .i64 0, .int .i64 0, .int .i64 0, .int .i64 0] 78))) := hB
      generalize (w.alloc (.cells #[.int .i64 0, .int .i64 0, .int .i64 0, .int .i64 0, .int .i64 0, .int .i64 0, .int .i64 0, .int .i64 0, .int .i64 0, .int .i64 0, .int .i64 0, .int .i64 0, .int .i64 0, .int .i64 0] 78)).alloc (.cells #[.int .i64 (kd : Nat), .int .i64 ((0 : Nat) : Int), .int .i64 0, .int .i64 0, .int .i64 0, .int .i64 0, .int .i64 0, .int .i64 0, .int .i64 0, .int .i64 0, .int .i64 0, .int .i64 0, .int .i64 0, .int .i64 0] 78) = wr at *
      have hkc : ∀ o, o < 14 → wr.cell? ⟨w.heap.size + 1, o, none⟩ = some (.int .i64 (kn k o : Nat)) := fun o ho => by
        have := hk.cell o ho
        rwa [kp_end k _ o (by rw [HKL.out]; omega) (by omega)] at this
      have hrc := hr.cell
      have hrf := hr.frz
      have hz1 := hr.lt
      have hz2 := hk.lt
      clear hk hr hB
      go_wp2
      exact bodyPost_ret (v := kval k) (by simp [results, Tryz.results52, go_sem, hrc, kval]) rfl ⟨rfl, put14_below HB.out (Nat.le_refl _)⟩
    · obtain rfl : d = 0 := by omega
      go_enter Tryz.func52, Tryz.ntmps52
      go_wp2
      refine wp_loop_rounds 1 ?_
      rw [rounds_succ]
      obtain ⟨hk, hr, hB⟩ := START
      have HB : Hid (Below w.heap.size w ((w.alloc (.cells #[.int .i64 0, .int .i64 0, .int .i64 0, .int .i64 0, .int .i64 0, .int .i64 0, .int .i64 0, .int .i64 0, .int .i64 0, .int .i64 0, .int .i64 0, .int .i64 0, .int .i64 0, .int .i64 0] 78)).alloc (.cells #[.int .i64 (kd : Nat), .int .i64 ((0 : Nat) : Int), .int .i64 0, .int .i64 0, .int .i64 0, .int .i64 0, .int .i64 0, .int .i64 0, .int .i64 0, .int .i64 0, .int .i64 0, .int .i64 0, .int .i64 0, .int .i64 0] 78))) := hB
      generalize (w.alloc (.cells #[.int .i64 0, .int .i64 0, .int .i64 0, .int .i64 0, .int .i64 0, .int .i64 0, .int .i64 0, .int .i64 0, .int .i64 0, .int .i64 0, .int .i64 0, .int .i64 0, .int .i64 0, .int .i64 0] 78)).alloc (.cells #[.int .i64 (kd : Nat), .int .i64 ((0 : Nat) : Int), .int .i64 0, .int .i64 0, .int .i64 0, .int .i64 0, .int .i64 0, .int .i64 0, .int .i64 0, .int .i64 0, .int .i64 0, .int .i64 0, .int .i64 0, .int .i64 0] 78) = wr at *
      have hkc : ∀ o, o < 14 → wr.cell? ⟨w.heap.size + 1, o, none⟩ = some (.int .i64 (kn k o : Nat)) := fun o ho => by
        have := hk.cell o ho
        rwa [kp_end k _ o (by rw [HKL.out]; omega) (by omega)] at this
      have hrc := hr.cell
      have hrf := hr.frz
      have hz1 := hr.lt
      have hz2 := hk.lt
      clear hk hr hB
      go_wp2
      exact bodyPost_ret (v := kval k) (by simp [results, Tryz.results52, go_sem, hrc, kval]) rfl ⟨rfl, put14_below HB.out (Nat.le_refl _)⟩
  · subst hv
    unfold maxLen at hcm
    have hg : g < w.heap.size := hlt0 g rfl
    have hx : ∀ j u, (prs sts)[j]? = some u → w.cell? ⟨g, j, none⟩ = some u := fun j u hu => by have := hcs g rfl j u hu; rwa [addr_add] at this
    clear hcs hlt0 hnil
    by_cases hld : len < d
    · obtain ⟨n, HN⟩ : ∃ n, Hid (len = n) := ⟨_, rfl⟩
      have hmn : min d len = n := by rw [← HN.out]; omega
      rw [hmn] at HKL HX
      rw [HN.out] at hld hnc hl HLEN
      rw [HN.out]
      have START := key_start k w 78 78
      rw [HK1.out, HKL.out] at START
      have hn6 : n ≤ 6 := by omega
      clear hmn HN
      go_enter Tryz.func52, Tryz.ntmps52
      go_wp2
      go_loopw [22] (fun i wr => ∃ j : Nat, i = .int .i64 j ∧ j ≤ n ∧ Bx (w.heap.size + 1) 14 (fun o => .int .i64 (kp k j o : Nat)) wr ∧ Bx w.heap.size 14 (fun _ => .int .i64 0) wr ∧ Below w.heap.size w wr) (fun i _ => n - (intOf i).toNat)
      case atStart => exact ⟨0, rfl, by omega, START.1, START.2.1, START.2.2⟩
      case round =>
        obtain ⟨j, rfl, hj, hk, hr, hB⟩ := hrel
        by_cases hjn : j < n
        · obtain ⟨q0, q1⟩ := prs_get sts j (by have := HLEN.out; omega)
          have x1 := (hB.cell (p := ⟨g, j * 2, none⟩) hg).trans (hx _ _ q0)
          have y1 := (hB.cell (p := ⟨g, j * 2 + 1, none⟩) hg).trans (hx _ _ q1)
          rw [HX.out j hjn] at x1 y1
          have c2 := hk.cell (2 + 2 * j) (by omega)
          have c3 := hk.cell (3 + 2 * j) (by omega)
          have fz := hk.frz
          have hgw : g < wr.heap.size := Nat.lt_of_lt_of_le hg hB.size
          have hgn : g ≠ wr.heap.size := Nat.ne_of_lt hgw
          have hzr := hk.lt
          have hzn : w.heap.size + 1 ≠ wr.heap.size := Nat.ne_of_lt hzr
          have HREL : Hid (∀ o : Obj, Bx (w.heap.size + 1) 14 (fun i => .int .i64 (kp k (j + 1) i : Nat)) (((wr.setCell ⟨w.heap.size + 1, 2 + 2 * j, none⟩ (.int .i64 ((k.2[j]?.getD (0, 0)).1 : Nat))).setCell ⟨w.heap.size + 1, 3 + 2 * j, none⟩ (.int .i64 ((k.2[j]?.getD (0, 0)).2 : Nat))).alloc o) ∧ Bx w.heap.size 14 (fun _ => .int .i64 0) (((wr.setCell ⟨w.heap.size + 1, 2 + 2 * j, none⟩ (.int .i64 ((k.2[j]?.getD (0, 0)).1 : Nat))).setCell ⟨w.heap.size + 1, 3 + 2 * j, none⟩ (.int .i64 ((k.2[j]?.getD (0, 0)).2 : Nat))).alloc o) ∧ Below w.heap.size w (((wr.setCell ⟨w.heap.size + 1, 2 + 2 * j, none⟩ (.int .i64 ((k.2[j]?.getD (0, 0)).1 : Nat))).setCell ⟨w.heap.size + 1, 3 + 2 * j, none⟩ (.int .i64 ((k.2[j]?.getD (0, 0)).2 : Nat))).alloc o)) := key_round hk hr hB (by omega)
          generalize k.2[j]?.getD (0, 0) = z at *
          have hwa : IntKind.wrap .i64 (2 * ((j : Nat) : Int)) = 2 * ((j : Nat) : Int) := wrap_mul2 j (by omega)
          have hwb : IntKind.wrap .i64 (2 + 2 * ((j : Nat) : Int)) = 2 + 2 * ((j : Nat) : Int) := wrap_add2 2 j (by omega) (by omega)
          have hwc : IntKind.wrap .i64 (3 + 2 * ((j : Nat) : Int)) = 3 + 2 * ((j : Nat) : Int) := wrap_add2 3 j (by omega) (by omega)
          have hta : (2 + 2 * ((j : Nat) : Int)).toNat = 2 + 2 * j := by omega
          have htb : (3 + 2 * ((j : Nat) : Int)).toNat = 3 + 2 * j := by omega
          have hia : (0 : Int) ≤ 2 + 2 * ((j : Nat) : Int) := by omega
          have hib : (0 : Int) ≤ 3 + 2 * ((j : Nat) : Int) := by omega
          have hic : 2 + 2 * ((j : Nat) : Int) < 14 := by omega
          have hid : 3 + 2 * ((j : Nat) : Int) < 14 := by omega
          clear hk hr hB q0 q1
          go_wp2
          go_region
          all_goals
            go_wp2
            go_roundw
            case rel => exact ⟨j + 1, by go_num, by omega, by first | exact bx_drew (HREL.out _).1 | exact (HREL.out _).1, by first | exact bx_drew (HREL.out _).2.1 | exact (HREL.out _).2.1, by first | exact below_drew (HREL.out _).2.2 | exact (HREL.out _).2.2⟩
            case measure => simp [intOf]; omega
        · obtain rfl : j = n := by omega
          have HB : Hid (Below w.heap.size w wr) := hB
          have hkc : ∀ o, o < 14 → wr.cell? ⟨w.heap.size + 1, o, none⟩ = some (.int .i64 (kn k o : Nat)) := fun o ho => by
            have := hk.cell o ho
            rwa [kp_end k _ o (by rw [HKL.out]; omega) (by omega)] at this
          have hrc := hr.cell
          have hrf := hr.frz
          have hz1 := hr.lt
          have hz2 := hk.lt
          clear hk hr hB
          go_wp2
          exact bodyPost_ret (v := kval k) (by simp [results, Tryz.results52, go_sem, hrc, kval]) rfl ⟨rfl, put14_below HB.out (Nat.le_refl _)⟩
    · obtain ⟨n, HN⟩ : ∃ n, Hid (d = n) := ⟨_, rfl⟩
      have hmn : min d len = n := by rw [← HN.out]; omega
      rw [hmn] at HKL HX
      rw [HN.out] at hld hd
      rw [HN.out]
      have START := key_start k w 78 78
      rw [HK1.out, HKL.out] at START
      have hn6 : n ≤ 6 := by omega
      clear hmn HN HKD
      go_enter Tryz.func52, Tryz.ntmps52
      go_wp2
      go_loopw [22] (fun i wr => ∃ j : Nat, i = .int .i64 j ∧ j ≤ n ∧ Bx (w.heap.size + 1) 14 (fun o => .int .i64 (kp k j o : Nat)) wr ∧ Bx w.heap.size 14 (fun _ => .int .i64 0) wr ∧ Below w.heap.size w wr) (fun i _ => n - (intOf i).toNat)
      case atStart => exact ⟨0, rfl, by omega, START.1, START.2.1, START.2.2⟩
      case round =>
        obtain ⟨j, rfl, hj, hk, hr, hB⟩ := hrel
        by_cases hjn : j < n
        · obtain ⟨q0, q1⟩ := prs_get sts j (by have := HLEN.out; omega)
          have x1 := (hB.cell (p := ⟨g, j * 2, none⟩) hg).trans (hx _ _ q0)
          have y1 := (hB.cell (p := ⟨g, j * 2 + 1, none⟩) hg).trans (hx _ _ q1)
          rw [HX.out j hjn] at x1 y1
          have c2 := hk.cell (2 + 2 * j) (by omega)
          have c3 := hk.cell (3 + 2 * j) (by omega)
          have fz := hk.frz
          have hgw : g < wr.heap.size := Nat.lt_of_lt_of_le hg hB.size
          have hgn : g ≠ wr.heap.size := Nat.ne_of_lt hgw
          have hzr := hk.lt
          have hzn : w.heap.size + 1 ≠ wr.heap.size := Nat.ne_of_lt hzr
          have HREL : Hid (∀ o : Obj, Bx (w.heap.size + 1) 14 (fun i => .int .i64 (kp k (j + 1) i : Nat)) (((wr.setCell ⟨w.heap.size + 1, 2 + 2 * j, none⟩ (.int .i64 ((k.2[j]?.getD (0, 0)).1 : Nat))).setCell ⟨w.heap.size + 1, 3 + 2 * j, none⟩ (.int .i64 ((k.2[j]?.getD (0, 0)).2 : Nat))).alloc o) ∧ Bx w.heap.size 14 (fun _ => .int .i64 0) (((wr.setCell ⟨w.heap.size + 1, 2 + 2 * j, none⟩ (.int .i64 ((k.2[j]?.getD (0, 0)).1 : Nat))).setCell ⟨w.heap.size + 1, 3 + 2 * j, none⟩ (.int .i64 ((k.2[j]?.getD (0, 0)).2 : Nat))).alloc o) ∧ Below w.heap.size w (((wr.setCell ⟨w.heap.size + 1, 2 + 2 * j, none⟩ (.int .i64 ((k.2[j]?.getD (0, 0)).1 : Nat))).setCell ⟨w.heap.size + 1, 3 + 2 * j, none⟩ (.int .i64 ((k.2[j]?.getD (0, 0)).2 : Nat))).alloc o)) := key_round hk hr hB (by omega)
          generalize k.2[j]?.getD (0, 0) = z at *
          have hwa : IntKind.wrap .i64 (2 * ((j : Nat) : Int)) = 2 * ((j : Nat) : Int) := wrap_mul2 j (by omega)
          have hwb : IntKind.wrap .i64 (2 + 2 * ((j : Nat) : Int)) = 2 + 2 * ((j : Nat) : Int) := wrap_add2 2 j (by omega) (by omega)
          have hwc : IntKind.wrap .i64 (3 + 2 * ((j : Nat) : Int)) = 3 + 2 * ((j : Nat) : Int) := wrap_add2 3 j (by omega) (by omega)
          have hta : (2 + 2 * ((j : Nat) : Int)).toNat = 2 + 2 * j := by omega
          have htb : (3 + 2 * ((j : Nat) : Int)).toNat = 3 + 2 * j := by omega
          have hia : (0 : Int) ≤ 2 + 2 * ((j : Nat) : Int) := by omega
          have hib : (0 : Int) ≤ 3 + 2 * ((j : Nat) : Int) := by omega
          have hic : 2 + 2 * ((j : Nat) : Int) < 14 := by omega
          have hid : 3 + 2 * ((j : Nat) : Int) < 14 := by omega
          clear hk hr hB q0 q1
          go_wp2
          go_region
          all_goals
            go_wp2
            go_roundw
            case rel => exact ⟨j + 1, by go_num, by omega, by first | exact bx_drew (HREL.out _).1 | exact (HREL.out _).1, by first | exact bx_drew (HREL.out _).2.1 | exact (HREL.out _).2.1, by first | exact below_drew (HREL.out _).2.2 | exact (HREL.out _).2.2⟩
            case measure => simp [intOf]; omega
        · obtain rfl : j = n := by omega
          have HB : Hid (Below w.heap.size w wr) := hB
          have hkc : ∀ o, o < 14 → wr.cell? ⟨w.heap.size + 1, o, none⟩ = some (.int .i64 (kn k o : Nat)) := fun o ho => by
            have := hk.cell o ho
            rwa [kp_end k _ o (by rw [HKL.out]; omega) (by omega)] at this
          have hrc := hr.cell
          have hrf := hr.frz
          have hz1 := hr.lt
          have hz2 := hk.lt
          clear hk hr hB
          go_wp2
          exact bodyPost_ret (v := kval k) (by simp [results, Tryz.results52, go_sem, hrc, kval]) rfl ⟨rfl, put14_below HB.out (Nat.le_refl _)⟩
end Go.Proofs.YtbmaiioecnmopaaGreatDoor
