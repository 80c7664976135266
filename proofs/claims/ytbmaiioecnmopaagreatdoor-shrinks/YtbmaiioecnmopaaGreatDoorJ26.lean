/-
  THE PROGRAM's SIDE (package triage): step: CALL. By the verifier of the loop 'triage'.
-/
import Derived.Test.YtbmaiioecnmopaaGreatDoorJ23
import Derived.Test.YtbmaiioecnmopaaGreatDoorJ24
namespace Go.Proofs.YtbmaiioecnmopaaGreatDoor
open Go.RowKit

set_option maxHeartbeats 6400000 in
set_option maxRecDepth 100000 in
theorem cstep_12b (s inp : ByteArray) (n mb bs bc cs base : Nat) (m : Im.St) (L : Nat → Value) (w : World) (hM : Mc s inp n mb bs bc cs base m false L w) (hI : Iv s inp n m) (hop : Im.bt s m.at_ = 12) (hT : ¬ m.stk.length < Im.tk 12) (hO : ¬ 16 < m.stk.length - Im.tk 12 + Im.psh 12) (hx : m.cal.length < 8) :
    Calls Tryz.prog 47 #[.pointer (some ⟨mb, 0, none⟩)] w fun e w' => CStep s inp n mb bs bc cs base m w w' e := by
  have HS : Hid (Im.stepP s inp m = ({ m with cal := m.cal ++ [(m.fn, m.at_)], fn := Im.bt s (m.at_ + 1), at_ := Im.st s (Im.bt s (m.at_ + 1)), edg := Im.up m.edg (2 * m.at_ + 1) }, 0)) := by
    show Im.stepP s inp m = _
    unfold Im.stepP
    rw [hop]
    rw [if_neg (show ¬ m.stk.length < Im.tk 12 from hT), if_neg (show ¬ 16 < m.stk.length - Im.tk 12 + Im.psh 12 from hO)]
    simp [show ¬ 8 ≤ m.cal.length by omega]
  have k0 := hM.bx.cell 0 (by omega)
  have k1 := hM.bx.cell 1 (by omega)
  have k3 := hM.bx.cell 3 (by omega)
  have k5 := hM.bx.cell 5 (by omega)
  rw [hM.lm.l0] at k0
  rw [hM.lm.l1] at k1
  rw [hM.lm.l3] at k3
  obtain ⟨a5, cap5, hv5, -, hcm5, -⟩ := owns_shape hM.rs
  rw [hv5] at k5
  have d0 := hM.mf.c0 m.at_ hI.hD
  have d1 := hM.mf.c1 m.at_ hI.hD
  have d2 := hM.mf.c2 m.at_ hI.hD
  have d3 := hM.mf.c3 m.at_ hI.hD
  rw [hop] at d0 d1 d2
  rw [show Im.tk 12 = 0 from rfl] at d0 hT hO
  rw [show Im.sz 12 = 2 from rfl] at d1
  have ha := hI.ha
  have hs := hI.hs
  have hl := hI.hl
  have hlt := hM.bx.lt
  have hltc : bc < w.heap.size := by have := hM.mf.hbc; have := hM.mf.hba; omega
  rw [show ar s m.at_ = Im.bt s (m.at_ + 1) from by unfold ar; rw [hop]; rfl] at d3
  have hg256 := Im.bt_lt s (m.at_ + 1)
  obtain ⟨g3, HG⟩ : ∃ g3, Hid (Im.bt s (m.at_ + 1) = g3) := ⟨_, rfl⟩
  rw [HG.out] at d3 hg256
  rw [HG.out] at HS
  have HM : Hid (Mc s inp n mb bs bc cs base m false L w) := hM
  have HI : Hid (Iv s inp n m) := hI
  clear hM hI hv5
  obtain ⟨f, a, pos, stk, cel, cal, edg⟩ := m
  dsimp only at *
  go_enter Tryz.func47, Tryz.ntmps47
  go_wp2_with fail
  go_region
  go_wp2_with fail
  go_quiet (fail)
  go_wp2_with fail
  refine (cbehind_any s inp n mb bs bc cs base ⟨f, a, pos, stk, cel, cal, edg⟩ false L f a _ ((HM.out.alloc _).drewN _) HI.out.hD ha hs).mono ?_
  rintro e w1 ⟨rfl, hb1⟩
  rw [hop, show Im.sz 12 = 2 from rfl]
  have hnow : w1.heap[w.heap.size]? = some (.cells #[.int .i64 0, .int .i64 2, .int .u8 12, .int .u8 (g3 : Nat)] 162 (0, 0)) := (hb1.block w.heap.size (by simp)).trans (heap_new w _)
  have n2 : w1.cell? ⟨w.heap.size, 2, none⟩ = some (.int .u8 12) := cell_of_heap hnow rfl
  have n3 : w1.cell? ⟨w.heap.size, 3, none⟩ = some (.int .u8 (g3 : Nat)) := cell_of_heap hnow rfl
  have m3 : w1.frozen? ⟨w.heap.size, 3, none⟩ = false := free_of_heap hnow
  have HN : Hid (w1.heap[w.heap.size]? = some (.cells #[.int .i64 0, .int .i64 2, .int .u8 12, .int .u8 (g3 : Nat)] 162 (0, 0))) := hnow
  have HK1 : Hid (Kp mb w L w1 L) := (((Kp.refl mb w L).alloc _).drewN _).below hb1
  have HM1 : Hid (Mc s inp n mb bs bc cs base ⟨f, a, pos, stk, cel, cal, edg⟩ false L w1) := (((HM.out.alloc _).drewN _).below hb1).1
  have hw1 : w.heap.size < w1.heap.size := by have := hb1.size; simp at this; omega
  clear hb1 hnow k0 k1 k3 k5 d0 d1 d2 d3
  have hc8 : ((cal.length : Int) == 8) = false := by rw [beq_eq_false_iff_ne]; omega
  obtain ⟨i0, hi, hz0, hz1, hz2⟩ := info_parts Tryz.infoPSite
  obtain ⟨a6, cap6, hv6, -, hcm6, -⟩ := owns_shape HM1.out.rc
  have k6 := HM1.out.bx.cell 6 (by omega)
  have z6 := HM1.out.bx.frz 6
  have hown := HM1.out.rc
  rw [hv6] at k6 hown
  have HV6 : Hid (L 6 = .slice a6 cal.length cap6) := hv6
  dsimp only at k6 hown
  clear hv6
  have hrow : some mb ≠ Value.ownBlock (.slice a6 cal.length cap6) := fun e => by have := (hown.lt mb e.symm).1; have := HM1.out.mf.hbb; omega
  have hba1 := HM1.out.mf.hba
  have k0 := HM1.out.bx.cell 0 (by omega)
  have k1 := HM1.out.bx.cell 1 (by omega)
  rw [HM1.out.lm.l0] at k0
  rw [HM1.out.lm.l1] at k1
  have k2 := HM1.out.bx.cell 2 (by omega)
  rw [HM1.out.lm.l2] at k2
  have z0 := HM1.out.bx.frz 0
  have z1 := HM1.out.bx.frz 1
  have hlt1 := HM1.out.bx.lt
  have hff : f < n := HI.out.hf
  have hn6 := HI.out.n6
  have hcs := HM1.out.mf.hcs
  have hcm := HM1.out.mf.hcm
  unfold maxLen at hcm
  have hlts : bs < w1.heap.size := by have := HM1.out.mf.hbs; have := HM1.out.mf.hba; omega
  have nes := HM1.out.mf.nes
  have k6a : ((w1.alloc (.cells #[.int .i64 (f : Nat), .int .i64 ((a : Int) + 2)] 34)).alloc (.cells #[.int .i64 (f : Nat), .int .i64 (a : Nat)] 34)).cell? ⟨mb, 6, none⟩ = some (.slice a6 cal.length cap6) := (World.cell?_alloc_lt _ _ ⟨mb, 6, none⟩ (by simp; omega)).trans ((World.cell?_alloc_lt _ _ ⟨mb, 6, none⟩ hlt1).trans k6)
  have z6a : ((w1.alloc (.cells #[.int .i64 (f : Nat), .int .i64 ((a : Int) + 2)] 34)).alloc (.cells #[.int .i64 (f : Nat), .int .i64 (a : Nat)] 34)).frozen? ⟨mb, 6, none⟩ = false := (World.frozen?_alloc_old _ _ ⟨mb, 6, none⟩ (by simp; omega)).trans ((World.frozen?_alloc_old _ _ ⟨mb, 6, none⟩ (Nat.ne_of_lt hlt1)).trans z6)
  have hba2 : base ≤ ((w1.alloc (.cells #[.int .i64 (f : Nat), .int .i64 ((a : Int) + 2)] 34)).alloc (.cells #[.int .i64 (f : Nat), .int .i64 (a : Nat)] 34)).heap.size := by simp; omega
  have hmb2 : mb < ((w1.alloc (.cells #[.int .i64 (f : Nat), .int .i64 ((a : Int) + 2)] 34)).alloc (.cells #[.int .i64 (f : Nat), .int .i64 (a : Nat)] 34)).heap.size := by simp; omega
  have HA : Hid (Mc s inp n mb bs bc cs base ⟨f, a, pos, stk, cel, cal, edg⟩ false L (((w1.alloc (.cells #[.int .i64 (f : Nat), .int .i64 ((a : Int) + 2)] 34)).alloc (.cells #[.int .i64 (f : Nat), .int .i64 (a : Nat)] 34)).drewN 1)) := ((HM1.out.alloc _).alloc _).drewN 1
  have HKA : Hid (Kp mb (w1.alloc (.cells #[.int .i64 (f : Nat), .int .i64 ((a : Int) + 2)] 34)) L (((w1.alloc (.cells #[.int .i64 (f : Nat), .int .i64 ((a : Int) + 2)] 34)).alloc (.cells #[.int .i64 (f : Nat), .int .i64 (a : Nat)] 34)).drewN 1) L) := ((Kp.refl _ _ _).alloc _).drewN 1
  have hnews : ∀ j u, [Value.int .i64 (f : Nat), Value.int .i64 (a : Nat)][j]? = some u → ((w1.alloc (.cells #[.int .i64 (f : Nat), .int .i64 ((a : Int) + 2)] 34)).alloc (.cells #[.int .i64 (f : Nat), .int .i64 (a : Nat)] 34)).cell? ((⟨w1.heap.size + 1, 0, none⟩ : Addr).add j) = some u := by
    have := news2 (w1.alloc (.cells #[.int .i64 (f : Nat), .int .i64 ((a : Int) + 2)] 34)) 34 (.int .i64 (f : Nat)) (.int .i64 (a : Nat))
    simpa using this
  go_wp2_with fail
  go_region_law (refine step_append_fresh rfl (.tmp 138) (.tmp 143) 37 rfl base 34 i0 (.agg #[.int .i64 0, .int .i64 0]) 2 16 Tryz.undPSites hi hz0 hz1 hz2 rfl (by decide) (.slice a6 cal.length cap6) cal.length (prs cal) rfl (by exact (hown.alloc _).alloc _) ⟨w1.heap.size + 1, 0, none⟩ 1 1 [.int .i64 (f : Nat), .int .i64 (a : Nat)] rfl rfl (by exact hnews) (by exact ones2 _ _ _) (by unfold maxLen; omega) (by omega) (by exact hba2) ?_; intro v' w3 hown' hgrow hfr; have k6' : w3.cell? ⟨mb, 6, none⟩ = some (.slice a6 cal.length cap6) := hgrow.cell k6a hrow; have z6' : w3.frozen? ⟨mb, 6, none⟩ = false := (World.frozen?_of_block (a := ⟨mb, 6, none⟩) (hgrow.block mb hmb2 hrow)).trans z6a; obtain ⟨g', cap', hv', -⟩ := owns_some hown' (by omega); subst hv')
  all_goals
    have hN := HA.out.grownC (w1 := w3) (by rw [HV6.out]; exact hgrow) (cal ++ [(f, a)]) (.slice (some ⟨g', 0, none⟩) (cal.length + 1) cap') (by rw [prs_append]; simpa [prs] using hown')
    have hK3 := HKA.out.grownC (w2 := w3) (by rw [HV6.out]; exact hgrow) (.slice (some ⟨g', 0, none⟩) (cal.length + 1) cap') (by rw [HV6.out]; exact hfr)
    have hM5 := hN.1
    clear hN hown' hgrow hfr k6' z6' k0 k1 k2 z0 z1 k6 z6 k6a z6a hown hba2 hmb2 HA HKA hnews
    generalize w3.setCell ⟨mb, 6, none⟩ (.slice (some ⟨g', 0, none⟩) (cal.length + 1) cap') = w5 at *
    generalize updV L 6 (.slice (some ⟨g', 0, none⟩) (cal.length + 1) cap') = L5 at *
    have hnx : w5.heap[w1.heap.size]? = some (.cells #[.int .i64 (f : Nat), .int .i64 ((a : Int) + 2)] 34 (0, 0)) := loc_kept HM1.out (Nat.le_refl _) (heap_new w1 _) hK3
    have hnow2 : w5.heap[w.heap.size]? = some (.cells #[.int .i64 0, .int .i64 2, .int .u8 12, .int .u8 (g3 : Nat)] 162 (0, 0)) := loc_kept HM.out (Nat.le_refl _) ((Below.heap_alloc w1 _ _ hw1).trans HN.out) hK3
    have p3 : w5.cell? ⟨w.heap.size, 3, none⟩ = some (.int .u8 (g3 : Nat)) := cell_of_heap hnow2 rfl
    have y0 := cell_of_heap (o := 0) hnx rfl
    have y1 := cell_of_heap (o := 1) hnx rfl
    have x0 := free_of_heap (o := 0) hnx
    have x1 := free_of_heap (o := 1) hnx
    obtain ⟨hr5, hr6⟩ := row_kept (w1 := w1.alloc (.cells #[.int .i64 (f : Nat), .int .i64 ((a : Int) + 2)] 34)) HM1.out (Nat.le_refl _) (by simp) hK3
    have hmb1 : mb ≠ w1.heap.size := by omega
    have hbs1 : bs ≠ w1.heap.size := by have := HM1.out.mf.hbs; omega
    have hnn : w.heap.size ≠ w1.heap.size := by omega
    have hsz2 : w1.heap.size < w5.heap.size := by have := hK3.size; simp at this; omega
    have hw5 : w.heap.size < w5.heap.size := by omega
    have hwm : w.heap.size ≠ mb := by omega
    have HK5 : Hid (Kp mb w L w5 L5) := (HK1.out.alloc _).trans hK3
    have HM5 : Hid _ := hM5
    clear hnx hnow2 hM5 hK3
    have k0 := HM5.out.bx.cell 0 (by omega)
    have k1 := HM5.out.bx.cell 1 (by omega)
    rw [HM5.out.lm.l0] at k0
    rw [HM5.out.lm.l1] at k1
    have k2 := HM5.out.bx.cell 2 (by omega)
    rw [HM5.out.lm.l2] at k2
    have z0 := HM5.out.bx.frz 0
    have z1 := HM5.out.bx.frz 1
    have hlt1 := HM5.out.bx.lt
    have hff : f < n := HI.out.hf
    have hn6 := HI.out.n6
    have hcs := HM5.out.mf.hcs
    have hcm := HM5.out.mf.hcm
    unfold maxLen at hcm
    have hlts : bs < w5.heap.size := by have := HM5.out.mf.hbs; have := HM5.out.mf.hba; omega
    have nes := HM5.out.mf.nes
    have kE := HM5.out.bx.cell (23 + (2 * a + 1)) (by omega)
    have zE := HM5.out.bx.frz (23 + (2 * a + 1))
    dsimp only at k0 k1
    have hgn : g3 < n := by have := HI.out.hcall hop; dsimp only at this; rw [HG.out] at this; exact this
    have hst := HM5.out.mf.st g3 (by omega)
    have hst2 : Im.st s g3 ≤ 200 := HI.out.hst g3 hgn
    go_wp2_with fail
    go_region_with (go_at_call 75; refine (cedge_any f a true _ ?_).mono ?_; omega; rintro e w4 ⟨rfl, rfl⟩)
    clear kE zE
    go_wp2_with fail
    have HP : Hid (CStep s inp n mb bs bc cs base ⟨f, a, pos, stk, cel, cal, edg⟩ w (((((w5.setCell ⟨mb, 23 + (2 * a + 1), none⟩ (.bool true)).setCell ⟨w1.heap.size, 0, none⟩ (.int .i64 (g3 : Nat))).setCell ⟨w1.heap.size, 1, none⟩ (.int .i64 (Im.st s g3 : Nat))).setCell ⟨mb, 0, none⟩ (.int .i64 (g3 : Nat))).setCell ⟨mb, 1, none⟩ (.int .i64 (Im.st s g3 : Nat))) (.returned (.int .i64 0))) := by
      have hA := HM5.out.set (23 + (2 * a + 1)) (.bool true) (by omega) (by omega) (by omega) (HM5.out.lm.setEdg (2 * a + 1) (by omega)) rfl rfl
      have hB := hA.out w1.heap.size 0 (.int .i64 (g3 : Nat)) hba1 (by rw [updV_ne _ _ _ _ (by omega)]; exact hr5) (by rw [updV_ne _ _ _ _ (by omega)]; exact hr6)
      have hC := hB.1.out w1.heap.size 1 (.int .i64 (Im.st s g3 : Nat)) hba1 (by rw [updV_ne _ _ _ _ (by omega)]; exact hr5) (by rw [updV_ne _ _ _ _ (by omega)]; exact hr6)
      exact cst_site HS.out ((((HK5.out.set _ _ (by omega) (by omega)).kx HM.out).trans hB.2).trans hC.2) hC.1 rfl (by omega)
    go_region
    go_wp2_with fail
    go_ret
    exact cst_drew (cst_drew (cst_alloc HP.out _))

end Go.Proofs.YtbmaiioecnmopaaGreatDoor
