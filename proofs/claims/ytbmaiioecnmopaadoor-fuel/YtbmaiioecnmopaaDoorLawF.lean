/-
  THE LAW Fuel: its walk. By the verifier of the loop 'triage'.
-/
import Derived.Test.YtbmaiioecnmopaaDoorJ31
namespace Go.Proofs.YtbmaiioecnmopaaDoor
open Go.RowKit

theorem bad_out (s inp : ByteArray) (fuel more : Int) (h : ¬ ((Im.chk s).1 = 0 ∧ inp.size ≤ 24 ∧ 0 ≤ fuel ∧ fuel ≤ more ∧ more ≤ 2000)) : (outP s inp fuel).2.1 ≠ 0 ∨ (outP s inp more).2.1 ≠ 0 ∨ more < fuel := by
  by_cases hc : (Im.chk s).1 = 0
  · by_cases hi : 24 < inp.size
    · left; unfold outP; rw [if_neg (by simpa using hc), if_pos hi]; decide
    · by_cases h0 : fuel < 0
      · left; unfold outP; rw [if_neg (by simpa using hc), if_neg hi, if_pos (Or.inl h0)]; decide
      · by_cases h1 : more < fuel
        · exact Or.inr (Or.inr h1)
        · right; left; unfold outP; rw [if_neg (by simpa using hc), if_neg hi, if_pos (Or.inr (by omega))]; decide
  · left; unfold outP; rw [if_pos hc]; exact hc
theorem good_out (s inp : ByteArray) (fuel : Nat) (hc : (Im.chk s).1 = 0) (hi : inp.size ≤ 24) (hf : fuel ≤ 2000) : outP s inp (fuel : Int) = (ofR (Im.runP s inp fuel (Im.st0 s) 0), 0, 0) := by
  unfold outP; rw [if_neg (by simpa using hc), if_neg (by omega), if_neg (by omega)]; rfl

set_option maxHeartbeats 6400000 in
set_option maxRecDepth 100000 in
theorem fuel_walk (s inp : ByteArray) (fuel more : Int) (w : World) (hG : Glob w) : Calls Tryd.prog 6 #[.string s, .string inp, .int .i64 fuel, .int .i64 more] w fun e w' => e = .returned (.bool true) ∧ Below w.heap.size w w' := by
  have HG : Hid (Glob w) := hG
  clear hG
  go_enter Tryd.func6, Tryd.ntmps6
  go_wp2_with fail
  refine (crun_any ⟨#[1, 1, 17]⟩ ⟨#[]⟩ 9 _ HG.out).mono ?_
  rintro e w1 ⟨v, rfl, ha, hb1⟩
  obtain ⟨t1, t2⟩ := out_trap
  generalize outP ⟨#[1, 1, 17]⟩ ⟨#[]⟩ 9 = o at *
  obtain ⟨⟨en, fa, pa, kd, sts, eds, k, top⟩, oe, op⟩ := o
  dsimp only at *
  subst t1 t2
  obtain ⟨v4, v5, hv, h4, h5⟩ := ha
  dsimp only at hv h4 h5
  obtain ⟨a4, c4, hv4, -, -, -⟩ := owns_shape h4
  obtain ⟨a5, c5, hv5, -, -, -⟩ := owns_shape h5
  subst hv4 hv5
  subst hv
  obtain ⟨W1, hW1⟩ : ∃ W1, w1.alloc (.cells #[.int .i64 (fa : Nat), .int .i64 (pa : Nat), .int .i64 (kd : Nat), .int .i64 1, .slice a4 sts.length c4, .slice a5 eds.length c5, .int .i64 (k : Nat), .int .i64 top] 45) = W1 := ⟨_, rfl⟩
  have hB1 : Below w.heap.size w W1 := by rw [← hW1]; exact hb1.alloc hb1.size _
  have q3 : W1.cell? ⟨w1.heap.size, 3, none⟩ = some (.int .i64 1) := by rw [← hW1]; exact cell_of_heap (heap_new w1 _) rfl
  clear h4 h5 hb1
  go_wp2_with (go_at_call 13; refine (num_any _ _).mono ?_; rintro e w' ⟨rfl, rfl⟩)
  clear hW1 q3
  refine (crun_any s inp fuel _ (HG.out.below hB1)).mono ?_
  rintro e w2 ⟨v, rfl, ha, hb2⟩
  obtain ⟨oa, HOA⟩ : ∃ oa, Hid (outP s inp fuel = oa) := ⟨_, rfl⟩
  rw [HOA.out] at ha
  rw [HOA.out]
  obtain ⟨⟨aen, afa, apa, akd, asts, aeds, ak, atop⟩, aer, apl⟩ := oa
  obtain ⟨v4, v5, hv, h4, h5⟩ := ha
  dsimp only at hv h4 h5 ⊢
  obtain ⟨a4, c4, hv4, -, -, -⟩ := owns_shape h4
  obtain ⟨a5, c5, hv5, -, -, -⟩ := owns_shape h5
  subst hv4 hv5
  subst hv
  obtain ⟨W2, hW2⟩ : ∃ W2, w2.alloc (.cells #[.int .i64 (afa : Nat), .int .i64 (apa : Nat), .int .i64 (akd : Nat), .int .i64 (aen : Nat), .slice a4 asts.length c4, .slice a5 aeds.length c5, .int .i64 (ak : Nat), .int .i64 atop] 45) = W2 := ⟨_, rfl⟩
  have hB2 : Below w.heap.size w W2 := by rw [← hW2]; exact (hB1.trans (hb2.mono hB1.size)).alloc (Nat.le_trans hB1.size hb2.size) _
  have HA2 : Hid (W2.heap[w2.heap.size]? = some (.cells #[.int .i64 (afa : Nat), .int .i64 (apa : Nat), .int .i64 (akd : Nat), .int .i64 (aen : Nat), .slice a4 asts.length c4, .slice a5 aeds.length c5, .int .i64 (ak : Nat), .int .i64 atop] 45 (0, 0))) := by show W2.heap[w2.heap.size]? = _; rw [← hW2]; exact heap_new _ _
  have H4 : Hid (W2.ownsRow W1.heap.size 39 2 (.slice a4 asts.length c4) asts.length (prs asts)) := by show World.ownsRow _ _ _ _ _ _ _; rw [← hW2]; exact h4.alloc _
  have H5 : Hid (W2.ownsRow W1.heap.size 3 1 (.slice a5 aeds.length c5) aeds.length (ints aeds)) := by show World.ownsRow _ _ _ _ _ _ _; rw [← hW2]; exact h5.alloc _
  have hz2 : w2.heap.size < W2.heap.size := by rw [← hW2]; simp
  clear h4 h5 hb2 hB1
  go_wp2_with fail
  clear hW2
  refine (crun_any s inp more _ (HG.out.below hB2)).mono ?_
  rintro e w3 ⟨v, rfl, hb, hb3⟩
  obtain ⟨ob, HOB⟩ : ∃ ob, Hid (outP s inp more = ob) := ⟨_, rfl⟩
  rw [HOB.out] at hb
  rw [HOB.out]
  obtain ⟨⟨ben, bfa, bpa, bkd, bsts, beds, bk, btop⟩, ber, bpl⟩ := ob
  obtain ⟨v14, v15, hv, h14, h15⟩ := hb
  dsimp only at hv h14 h15 ⊢
  obtain ⟨a14, c14, hv14, -, -, -⟩ := owns_shape h14
  obtain ⟨a15, c15, hv15, -, -, -⟩ := owns_shape h15
  subst hv14 hv15
  subst hv
  obtain ⟨W3, hW3⟩ : ∃ W3, w3.alloc (.cells #[.int .i64 (bfa : Nat), .int .i64 (bpa : Nat), .int .i64 (bkd : Nat), .int .i64 (ben : Nat), .slice a14 bsts.length c14, .slice a15 beds.length c15, .int .i64 (bk : Nat), .int .i64 btop] 45) = W3 := ⟨_, rfl⟩
  have hB23 : Below W2.heap.size W2 W3 := by rw [← hW3]; exact hb3.alloc hb3.size _
  have hB3 : Below w.heap.size w W3 := hB2.trans (hB23.mono hB2.size)
  have HA3 : Hid (W3.heap[w3.heap.size]? = some (.cells #[.int .i64 (bfa : Nat), .int .i64 (bpa : Nat), .int .i64 (bkd : Nat), .int .i64 (ben : Nat), .slice a14 bsts.length c14, .slice a15 beds.length c15, .int .i64 (bk : Nat), .int .i64 btop] 45 (0, 0))) := by show W3.heap[w3.heap.size]? = _; rw [← hW3]; exact heap_new _ _
  have H14 : Hid (W3.ownsRow W2.heap.size 39 2 (.slice a14 bsts.length c14) bsts.length (prs bsts)) := by show World.ownsRow _ _ _ _ _ _ _; rw [← hW3]; exact h14.alloc _
  have H15 : Hid (W3.ownsRow W2.heap.size 3 1 (.slice a15 beds.length c15) beds.length (ints beds)) := by show World.ownsRow _ _ _ _ _ _ _; rw [← hW3]; exact h15.alloc _
  have H4' : Hid (W3.ownsRow W1.heap.size 39 2 (.slice a4 asts.length c4) asts.length (prs asts)) := ownsB H4.out hB23
  have H5' : Hid (W3.ownsRow W1.heap.size 3 1 (.slice a5 aeds.length c5) aeds.length (ints aeds)) := ownsB H5.out hB23
  have HA2' := (hB23.block w2.heap.size hz2).trans HA2.out
  have hz3 : w3.heap.size < W3.heap.size := by rw [← hW3]; simp
  have hz23 : w2.heap.size < W3.heap.size := Nat.lt_of_lt_of_le hz2 hB23.size
  have HA23 : Hid _ := HA2'
  clear h14 h15 hb3 hB2 H4 H5 HA2' HA2 hB23
  go_wp2_with fail
  clear hW3
  refine (good_any s _).mono ?_
  rintro e W4 ⟨rfl, hb4⟩
  have hB4 : Below w.heap.size w W4 := hB3.trans (hb4.mono hB3.size)
  have HB4 : Hid (Below w.heap.size w W4) := hB4
  by_cases hgood : (Im.chk s).1 = 0 ∧ inp.size ≤ 24 ∧ 0 ≤ fuel ∧ fuel ≤ more ∧ more ≤ 2000
  · obtain ⟨hc, hi, h0, h1, h2⟩ := hgood
    obtain ⟨fu, rfl⟩ : ∃ fu : Nat, fuel = (fu : Int) := ⟨fuel.toNat, by omega⟩
    obtain ⟨mo, rfl⟩ : ∃ mo : Nat, more = (mo : Int) := ⟨more.toNat, by omega⟩
    have hst := outP_stsB s inp fu
    have hm := mor_of s inp fu mo (by omega)
    have e1 := HOA.out
    have e2 := HOB.out
    rw [e1] at hst
    rw [good_out s inp fu hc hi (by omega)] at e1
    rw [good_out s inp mo hc hi (by omega)] at e2
    injection e1 with e1 e1'
    injection e1' with e1' e1''
    injection e2 with e2 e2'
    injection e2' with e2' e2''
    rw [e1, e2] at hm
    subst e1' e1'' e2' e2''
    have hck : ((Im.chk s).1 == 0) = true := by simpa using hc
    rw [hck]
    have m1 := hm.st
    have m2 := hm.up
    have m3 := hm.sub
    have m4 := hm.two
    have m5 := hm.not
    dsimp only at m1 m2 m3 m4 m5 hst
    have HM2 : Hid _ := m2
    have HM3 : Hid _ := m3
    have HM4 : Hid _ := m4
    have HM5 : Hid _ := m5
    have HBA := (hb4.block w2.heap.size hz23).trans HA23.out
    have HBB := (hb4.block w3.heap.size hz3).trans HA3.out
    have R4 : Hid (W4.ownsRow W1.heap.size 39 2 (.slice a4 asts.length c4) asts.length (prs asts)) := ownsB H4'.out hb4
    have R5 : Hid (W4.ownsRow W1.heap.size 3 1 (.slice a5 aeds.length c5) aeds.length (ints aeds)) := ownsB H5'.out hb4
    have R14 : Hid (W4.ownsRow W2.heap.size 39 2 (.slice a14 bsts.length c14) bsts.length (prs bsts)) := ownsB H14.out hb4
    have R15 : Hid (W4.ownsRow W2.heap.size 3 1 (.slice a15 beds.length c15) beds.length (ints beds)) := ownsB H15.out hb4
    have zA : w2.heap.size < W4.heap.size := Nat.lt_of_lt_of_le hz23 hb4.size
    have zB : w3.heap.size < W4.heap.size := Nat.lt_of_lt_of_le hz3 hb4.size
    have HBA' : Hid _ := HBA
    have HBB' : Hid _ := HBB
    obtain ⟨p0, p1, p2, p3, p4, p5, p6, p7⟩ := cellsB HBA
    obtain ⟨q0, q1, q2, q3, q4, q5, q6, q7⟩ := cellsB HBB
    clear HA23 HA3 H14 H15 H4' H5' hb4 hB3 hB4 hm m2 m3 m4 m5 e1 e2 hz23 hz3 hz2 HBA HBB hck hc HOA HOB
    go_wp2_with (go_at_call 13; refine (num_any _ _).mono ?_; rintro e w' ⟨rfl, rfl⟩)
    refine (rising_any _ _ aeds _ R5.out HM2.out).mono ?_
    rintro e W5 ⟨rfl, hb5⟩
    obtain ⟨p0, p1, p2, p3, p4, p5, p6, p7⟩ := cellsB ((hb5.block _ zA).trans HBA'.out)
    obtain ⟨q0, q1, q2, q3, q4, q5, q6, q7⟩ := cellsB ((hb5.block _ zB).trans HBB'.out)
    go_wp2_with fail
    refine (within_any _ _ _ _ aeds beds _ (ownsB R5.out hb5) (ownsB R15.out hb5) HM3.out).mono ?_
    rintro e W6 ⟨rfl, hb6⟩
    have hB46 : Below W4.heap.size W4 W6 := hb5.trans (hb6.mono hb5.size)
    clear p0 p1 p2 p3 p4 p5 p6 p7 q0 q1 q2 q3 q4 q5 q6 q7
    obtain ⟨p0, p1, p2, p3, p4, p5, p6, p7⟩ := cellsB ((hB46.block _ zA).trans HBA'.out)
    obtain ⟨q0, q1, q2, q3, q4, q5, q6, q7⟩ := cellsB ((hB46.block _ zB).trans HBB'.out)
    have HB6 : Hid (Below w.heap.size w W6) := HB4.out.trans (hB46.mono HB4.out.size)
    have HBB46 : Hid _ := hB46
    clear hb5 hb6 hB46
    by_cases h2e : aen = 2
    · obtain ⟨n1, n2, n3, n4, n5⟩ := HM4.out h2e
      subst h2e n1 n3 n4 n5
      have hge : ((ak : Nat) : Int) ≤ (bk : Int) := by omega
      clear HM2 HM3 HM4 HM5
      go_wp2
      go_ret
      exact ⟨by simp [*], HB6.out⟩
    · obtain ⟨n1, n2⟩ := HM5.out h2e
      injection n1 with n1 n3 n4 n5 n6 n7 n8 n9
      subst n1 n3 n4 n5 n6 n7 n8 n9
      have h2b : ((ben : Int) == 2) = false := by rw [beq_eq_false_iff_ne]; omega
      have hpos : (0 : Int) < (bk : Int) := by omega
      have S4 : Hid (W6.ownsRow W1.heap.size 39 2 (.slice a4 bsts.length c4) bsts.length (prs bsts)) := ownsB R4.out HBB46.out
      have S5 : Hid (W6.ownsRow W1.heap.size 3 1 (.slice a5 beds.length c5) beds.length (ints beds)) := ownsB R5.out HBB46.out
      have S14 : Hid (W6.ownsRow W2.heap.size 39 2 (.slice a14 bsts.length c14) bsts.length (prs bsts)) := ownsB R14.out HBB46.out
      have S15 : Hid (W6.ownsRow W2.heap.size 3 1 (.slice a15 beds.length c15) beds.length (ints beds)) := ownsB R15.out HBB46.out
      have zA6 : w2.heap.size < W6.heap.size := Nat.lt_of_lt_of_le zA HBB46.out.size
      have zB6 : w3.heap.size < W6.heap.size := Nat.lt_of_lt_of_le zB HBB46.out.size
      have QA : Hid (∀ x, Below W6.heap.size W6 x → x.heap[w2.heap.size]? = some (.cells #[.int .i64 (bfa : Nat), .int .i64 (bpa : Nat), .int .i64 (bkd : Nat), .int .i64 (ben : Nat), .slice a4 bsts.length c4, .slice a5 beds.length c5, .int .i64 (bk : Nat), .int .i64 btop] 45 (0, 0))) := fun x h => (h.block _ zA6).trans ((HBB46.out.block _ zA).trans HBA'.out)
      have QB : Hid (∀ x, Below W6.heap.size W6 x → x.heap[w3.heap.size]? = some (.cells #[.int .i64 (bfa : Nat), .int .i64 (bpa : Nat), .int .i64 (bkd : Nat), .int .i64 (ben : Nat), .slice a14 bsts.length c14, .slice a15 beds.length c15, .int .i64 (bk : Nat), .int .i64 btop] 45 (0, 0))) := fun x h => (h.block _ zB6).trans ((HBB46.out.block _ zB).trans HBB'.out)
      clear HM2 HM3 HM4 HM5 R4 R5 R14 R15 HBA' HBB'
      go_wp2_with fail
      go_region_with (first | (go_at_call 24; first | (have h0 := ownsB S14.out hq1; refine (sites_any W2.heap.size (.slice a14 bsts.length c14) bsts x1 (by omega) h0).mono ?_; clear h0; rintro e x2 ⟨v2, rfl, ho2, hq2⟩; obtain ⟨av2, cv2, hvv2, -, -, -⟩ := owns_shape ho2; subst hvv2) | (have h0 := S4.out.drew; refine (sites_any W1.heap.size (.slice a4 bsts.length c4) bsts W6.drew (by omega) h0).mono ?_; clear h0; rintro e x1 ⟨v, rfl, ho1, hb0⟩; have hq1 : Below W6.heap.size W6 x1 := ⟨hb0.os, hb0.tape, hb0.output, hb0.size, hb0.block⟩; clear hb0; obtain ⟨av, cv, hvv, -, -, -⟩ := owns_shape ho1; subst hvv; obtain ⟨r0, r1, r2, r3, r4, r5, r6, r7⟩ := cellsB (QB.out x1 hq1); clear r0 r1 r2 r3 r5 r6 r7)) | (go_at_call 23; have h0 := ownsB ho1 hq2; refine (sameSites_any _ _ _ _ bsts x2 (by omega) h0 ho2).mono ?_; clear h0; rintro e x3 ⟨rfl, hq3⟩))
      all_goals
        have hq : Below W6.heap.size W6 x3 := (hq1.trans (hq2.mono hq1.size)).trans (hq3.mono (Nat.le_trans hq1.size hq2.size))
        clear p0 p1 p2 p3 p4 p5 p6 p7 q0 q1 q2 q3 q4 q5 q6 q7 r4 ho1 ho2 hq1 hq2 hq3
        obtain ⟨p0, p1, p2, p3, p4, p5, p6, p7⟩ := cellsB (QA.out x3 hq)
        obtain ⟨q0, q1, q2, q3, q4, q5, q6, q7⟩ := cellsB (QB.out x3 hq)
        go_wp2_with fail
        refine (sameInts_any _ _ _ _ beds _ (ownsB S5.out hq) (ownsB S15.out hq)).mono ?_
        rintro e x4 ⟨rfl, hq4⟩
        have hr : Below W6.heap.size W6 x4 := hq.trans (hq4.mono hq.size)
        clear p0 p1 p2 p3 p4 p5 p6 p7 q0 q1 q2 q3 q4 q5 q6 q7 hq hq4
        obtain ⟨p0, p1, p2, p3, p4, p5, p6, p7⟩ := cellsB (QA.out x4 hr)
        obtain ⟨q0, q1, q2, q3, q4, q5, q6, q7⟩ := cellsB (QB.out x4 hr)
        have HF : Hid (Below w.heap.size w x4) := HB6.out.trans (hr.mono HB6.out.size)
        clear hr p4 p5 q4 q5
        go_wp2
        go_ret
        exact ⟨by simp [*], HF.out⟩
  · have hbad := bad_out s inp fuel more hgood
    rw [HOA.out, HOB.out] at hbad
    dsimp only at hbad
    have HC : ((Im.chk s).1 ≠ 0) ∨ ((Im.chk s).1 = 0 ∧ 24 < inp.size) ∨ ((Im.chk s).1 = 0 ∧ ¬ 24 < inp.size ∧ fuel < 0) ∨ ((Im.chk s).1 = 0 ∧ ¬ 24 < inp.size ∧ ¬ fuel < 0 ∧ more < fuel) ∨ ((Im.chk s).1 = 0 ∧ ¬ 24 < inp.size ∧ ¬ fuel < 0 ∧ ¬ more < fuel ∧ 2000 < more) := by omega
    have hbad2 : aer ≠ 0 ∨ (aer = 0 ∧ ber ≠ 0) ∨ (aer = 0 ∧ ber = 0 ∧ more < fuel) := by omega
    clear HA23 HA3 H14 H15 H4' H5' hgood hbad hb4 hB3 hB4
    generalize (Im.chk s).1 = ck at *
    rcases HC with h | ⟨h, h1⟩ | ⟨h, h1, h2⟩ | ⟨h, h1, h2, h3⟩ | ⟨h, h1, h2, h3, h4⟩
    all_goals
      rcases hbad2 with g | ⟨g, g1⟩ | ⟨g, g1, g2⟩
    all_goals
      first
        | (exfalso; omega)
        | skip
    all_goals
      first
        | have hck : (ck == 0) = false := by simpa using h
        | have hck : (ck == 0) = true := by simpa using h
      first
        | have hea : (aer != 0) = true := by simpa using g
        | have hea : (aer != 0) = false := by simpa using g
      try have heb : (ber != 0) = true := by simpa using g1
      try have heb2 : (ber != 0) = false := by simpa using g1
      rw [hck]
      clear h g
      go_wp2_with (go_at_call 13; refine (num_any _ _).mono ?_; rintro e w' ⟨rfl, rfl⟩)
      go_ret
      exact ⟨by simp [*], HB4.out⟩
end Go.Proofs.YtbmaiioecnmopaaDoor
