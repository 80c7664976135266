/-
  MacJC, MacK: THESE TEXTS, JOINED. By the verifier of the loop 'triage'.
-/
import Derived.Test.YtbmaiioecnmopaaGreatDoorJ23
import Derived.Test.YtbmaiioecnmopaaGreatDoorJ24
/-
  THE PROGRAM's SIDE (package triage): step: JZ, taken. By the verifier of the loop 'triage'.
-/
namespace Go.Proofs.YtbmaiioecnmopaaGreatDoor
open Go.RowKit

set_option maxHeartbeats 6400000 in
set_option maxRecDepth 100000 in
theorem cstep_11a (s inp : ByteArray) (n mb bs bc cs base : Nat) (m : Im.St) (L : Nat → Value) (w : World) (hM : Mc s inp n mb bs bc cs base m false L w) (hI : Iv s inp n m) (hop : Im.bt s m.at_ = 11) (hT : ¬ m.stk.length < Im.tk 11) (hO : ¬ 16 < m.stk.length - Im.tk 11 + Im.psh 11) (hx : Im.top m.stk = 0) :
    Calls Tryz.prog 47 #[.pointer (some ⟨mb, 0, none⟩)] w fun e w' => CStep s inp n mb bs bc cs base m w w' e := by
  have HS : Hid (Im.stepP s inp m = ({ m with stk := m.stk.take (m.stk.length - 1), at_ := Im.st s m.fn + Im.bt s (m.at_ + 1), edg := Im.up m.edg (2 * m.at_ + 1) }, 0)) := by
    show Im.stepP s inp m = _
    unfold Im.stepP
    rw [hop]
    rw [if_neg (show ¬ m.stk.length < Im.tk 11 from hT), if_neg (show ¬ 16 < m.stk.length - Im.tk 11 + Im.psh 11 from hO)]
    simp [hx]
  have k0 := hM.bx.cell 0 (by omega)
  have k1 := hM.bx.cell 1 (by omega)
  have k3 := hM.bx.cell 3 (by omega)
  have k5 := hM.bx.cell 5 (by omega)
  rw [hM.lm.l0] at k0
  rw [hM.lm.l1] at k1
  rw [hM.lm.l3] at k3
  obtain ⟨a5, cap5, hv5, -, hcm5, -⟩ := owns_shape hM.rs
  rw [hv5] at k5
  have d0 := hM.mf.c0 m.at_ hI.hD
  have d1 := hM.mf.c1 m.at_ hI.hD
  have d2 := hM.mf.c2 m.at_ hI.hD
  have d3 := hM.mf.c3 m.at_ hI.hD
  rw [hop] at d0 d1 d2
  rw [show Im.tk 11 = 1 from rfl] at d0 hT hO
  rw [show Im.sz 11 = 2 from rfl] at d1
  have ha := hI.ha
  have hs := hI.hs
  have hl := hI.hl
  have hlt := hM.bx.lt
  have hltc : bc < w.heap.size := by have := hM.mf.hbc; have := hM.mf.hba; omega
  rw [show ar s m.at_ = Im.bt s (m.at_ + 1) from by unfold ar; rw [hop]; rfl] at d3
  have hg256 := Im.bt_lt s (m.at_ + 1)
  obtain ⟨g3, HG⟩ : ∃ g3, Hid (Im.bt s (m.at_ + 1) = g3) := ⟨_, rfl⟩
  rw [HG.out] at d3 hg256
  rw [HG.out] at HS
  have HM : Hid (Mc s inp n mb bs bc cs base m false L w) := hM
  have HI : Hid (Iv s inp n m) := hI
  clear hM hI hv5
  obtain ⟨f, a, pos, stk, cel, cal, edg⟩ := m
  dsimp only at *
  go_enter Tryz.func47, Tryz.ntmps47
  go_wp2_with fail
  go_region
  go_wp2_with fail
  go_quiet (fail)
  go_wp2_with fail
  refine (cbehind_any s inp n mb bs bc cs base ⟨f, a, pos, stk, cel, cal, edg⟩ false L f a _ ((HM.out.alloc _).drewN _) HI.out.hD ha hs).mono ?_
  rintro e w1 ⟨rfl, hb1⟩
  rw [hop, show Im.sz 11 = 2 from rfl]
  have hnow : w1.heap[w.heap.size]? = some (.cells #[.int .i64 1, .int .i64 2, .int .u8 11, .int .u8 (g3 : Nat)] 162 (0, 0)) := (hb1.block w.heap.size (by simp)).trans (heap_new w _)
  have n2 : w1.cell? ⟨w.heap.size, 2, none⟩ = some (.int .u8 11) := cell_of_heap hnow rfl
  have n3 : w1.cell? ⟨w.heap.size, 3, none⟩ = some (.int .u8 (g3 : Nat)) := cell_of_heap hnow rfl
  have m3 : w1.frozen? ⟨w.heap.size, 3, none⟩ = false := free_of_heap hnow
  have HN : Hid (w1.heap[w.heap.size]? = some (.cells #[.int .i64 1, .int .i64 2, .int .u8 11, .int .u8 (g3 : Nat)] 162 (0, 0))) := hnow
  have HK1 : Hid (Kp mb w L w1 L) := (((Kp.refl mb w L).alloc _).drewN _).below hb1
  have HM1 : Hid (Mc s inp n mb bs bc cs base ⟨f, a, pos, stk, cel, cal, edg⟩ false L w1) := (((HM.out.alloc _).drewN _).below hb1).1
  have hw1 : w.heap.size < w1.heap.size := by have := hb1.size; simp at this; omega
  clear hb1 hnow k0 k1 k3 k5 d0 d1 d2 d3
  go_wp2_with fail
  refine (cpop_any s inp n mb bs bc cs base ⟨f, a, pos, stk, cel, cal, edg⟩ false L _ (HM1.out.alloc _) (by show 0 < stk.length; omega) (by show stk.length ≤ 100; omega)).mono ?_
  rintro e w2 ⟨rfl, L2, hM2, hK2⟩
  have hnx : w2.heap[w1.heap.size]? = some (.cells #[.int .i64 (f : Nat), .int .i64 ((a : Int) + 2)] 34 (0, 0)) := loc_kept HM1.out (Nat.le_refl _) (heap_new w1 _) hK2
  have hnow2 : w2.heap[w.heap.size]? = some (.cells #[.int .i64 1, .int .i64 2, .int .u8 11, .int .u8 (g3 : Nat)] 162 (0, 0)) := loc_kept HM.out (Nat.le_refl _) ((Below.heap_alloc w1 _ _ hw1).trans HN.out) hK2
  have p3 : w2.cell? ⟨w.heap.size, 3, none⟩ = some (.int .u8 (g3 : Nat)) := cell_of_heap hnow2 rfl
  have y0 := cell_of_heap (o := 0) hnx rfl
  have y1 := cell_of_heap (o := 1) hnx rfl
  have x0 := free_of_heap (o := 0) hnx
  have x1 := free_of_heap (o := 1) hnx
  obtain ⟨hr5, hr6⟩ := row_kept (w1 := w1.alloc (.cells #[.int .i64 (f : Nat), .int .i64 ((a : Int) + 2)] 34)) HM1.out (Nat.le_refl _) (by simp) hK2
  have hbw1 : base ≤ w1.heap.size := HM1.out.mf.hba
  have hmb1 : mb ≠ w1.heap.size := by have := HM1.out.bx.lt; omega
  have hbs1 : bs ≠ w1.heap.size := by have := HM1.out.mf.hbs; omega
  have hnn : w.heap.size ≠ w1.heap.size := by omega
  have hsz2 : w1.heap.size < w2.heap.size := by have := hK2.size; simp at this; omega
  have hw2 : w.heap.size < w2.heap.size := by omega
  have hwm : w.heap.size ≠ mb := by omega
  have HK2 : Hid (Kp mb w L w2 L2) := (HK1.out.alloc _).trans hK2
  have HM2 : Hid _ := hM2
  clear hnx hnow2 hM2 hK2
  rw [hx]
  have k0 := HM2.out.bx.cell 0 (by omega)
  have k1 := HM2.out.bx.cell 1 (by omega)
  rw [HM2.out.lm.l0] at k0
  rw [HM2.out.lm.l1] at k1
  have k2 := HM2.out.bx.cell 2 (by omega)
  rw [HM2.out.lm.l2] at k2
  have z0 := HM2.out.bx.frz 0
  have z1 := HM2.out.bx.frz 1
  have hlt1 := HM2.out.bx.lt
  have hff : f < n := HI.out.hf
  have hn6 := HI.out.n6
  have hcs := HM2.out.mf.hcs
  have hcm := HM2.out.mf.hcm
  unfold maxLen at hcm
  have hlts : bs < w2.heap.size := by have := HM2.out.mf.hbs; have := HM2.out.mf.hba; omega
  have nes := HM2.out.mf.nes
  have hst := HM2.out.mf.st f (by have := HI.out.hf; dsimp only at this; omega)
  have hst2 : Im.st s f ≤ 200 := HI.out.hst f HI.out.hf
  have kE := HM2.out.bx.cell (23 + (2 * a + 1)) (by omega)
  have zE := HM2.out.bx.frz (23 + (2 * a + 1))
  go_wp2_with fail
  go_region_with (go_at_call 75; refine (cedge_any f a true _ ?_).mono ?_; omega; rintro e w4 ⟨rfl, rfl⟩)
  clear kE zE
  have HP : Hid (CStep s inp n mb bs bc cs base ⟨f, a, pos, stk, cel, cal, edg⟩ w ((((w2.setCell ⟨mb, 23 + (2 * a + 1), none⟩ (.bool true)).setCell ⟨w1.heap.size, 1, none⟩ (.int .i64 ((Im.st s f : Int) + g3))).setCell ⟨mb, 0, none⟩ (.int .i64 (f : Nat))).setCell ⟨mb, 1, none⟩ (.int .i64 ((Im.st s f : Int) + g3))) (.returned (.int .i64 0))) := by
    have hA := HM2.out.set (23 + (2 * a + 1)) (.bool true) (by omega) (by omega) (by omega) (HM2.out.lm.setEdg (2 * a + 1) (by omega)) rfl rfl
    have hB := hA.out w1.heap.size 1 (.int .i64 ((Im.st s f : Int) + g3)) hbw1 (by rw [updV_ne _ _ _ _ (by omega)]; exact hr5) (by rw [updV_ne _ _ _ _ (by omega)]; exact hr6)
    exact cst_site HS.out (((HK2.out.set _ _ (by omega) (by omega)).kx HM.out).trans hB.2) hB.1 rfl (by omega)
  go_wp2_with fail
  go_region
  go_wp2_with fail
  go_ret
  exact cst_drew (cst_drew (cst_alloc HP.out _))

end Go.Proofs.YtbmaiioecnmopaaGreatDoor

/-
  THE PROGRAM's SIDE (package triage): step: CALL, too deep. By the verifier of the loop 'triage'.
-/
namespace Go.Proofs.YtbmaiioecnmopaaGreatDoor
open Go.RowKit

set_option maxHeartbeats 6400000 in
set_option maxRecDepth 100000 in
theorem cstep_12a (s inp : ByteArray) (n mb bs bc cs base : Nat) (m : Im.St) (L : Nat → Value) (w : World) (hM : Mc s inp n mb bs bc cs base m false L w) (hI : Iv s inp n m) (hop : Im.bt s m.at_ = 12) (hT : ¬ m.stk.length < Im.tk 12) (hO : ¬ 16 < m.stk.length - Im.tk 12 + Im.psh 12) (hx : 8 ≤ m.cal.length) :
    Calls Tryz.prog 47 #[.pointer (some ⟨mb, 0, none⟩)] w fun e w' => CStep s inp n mb bs bc cs base m w w' e := by
  have HS : Hid (Im.stepP s inp m = (m, 6)) := by
    show Im.stepP s inp m = _
    unfold Im.stepP
    rw [hop]
    rw [if_neg (show ¬ m.stk.length < Im.tk 12 from hT), if_neg (show ¬ 16 < m.stk.length - Im.tk 12 + Im.psh 12 from hO)]
    simp [hx]
  have k0 := hM.bx.cell 0 (by omega)
  have k1 := hM.bx.cell 1 (by omega)
  have k3 := hM.bx.cell 3 (by omega)
  have k5 := hM.bx.cell 5 (by omega)
  rw [hM.lm.l0] at k0
  rw [hM.lm.l1] at k1
  rw [hM.lm.l3] at k3
  obtain ⟨a5, cap5, hv5, -, hcm5, -⟩ := owns_shape hM.rs
  rw [hv5] at k5
  have d0 := hM.mf.c0 m.at_ hI.hD
  have d1 := hM.mf.c1 m.at_ hI.hD
  have d2 := hM.mf.c2 m.at_ hI.hD
  have d3 := hM.mf.c3 m.at_ hI.hD
  rw [hop] at d0 d1 d2
  rw [show Im.tk 12 = 0 from rfl] at d0 hT hO
  rw [show Im.sz 12 = 2 from rfl] at d1
  have ha := hI.ha
  have hs := hI.hs
  have hl := hI.hl
  have hlt := hM.bx.lt
  have hltc : bc < w.heap.size := by have := hM.mf.hbc; have := hM.mf.hba; omega
  rw [show ar s m.at_ = Im.bt s (m.at_ + 1) from by unfold ar; rw [hop]; rfl] at d3
  have hg256 := Im.bt_lt s (m.at_ + 1)
  obtain ⟨g3, HG⟩ : ∃ g3, Hid (Im.bt s (m.at_ + 1) = g3) := ⟨_, rfl⟩
  rw [HG.out] at d3 hg256
  have HM : Hid (Mc s inp n mb bs bc cs base m false L w) := hM
  have HI : Hid (Iv s inp n m) := hI
  clear hM hI hv5
  obtain ⟨f, a, pos, stk, cel, cal, edg⟩ := m
  dsimp only at *
  go_enter Tryz.func47, Tryz.ntmps47
  go_wp2_with fail
  go_region
  go_wp2_with fail
  go_quiet (fail)
  go_wp2_with fail
  refine (cbehind_any s inp n mb bs bc cs base ⟨f, a, pos, stk, cel, cal, edg⟩ false L f a _ ((HM.out.alloc _).drewN _) HI.out.hD ha hs).mono ?_
  rintro e w1 ⟨rfl, hb1⟩
  rw [hop, show Im.sz 12 = 2 from rfl]
  have hnow : w1.heap[w.heap.size]? = some (.cells #[.int .i64 0, .int .i64 2, .int .u8 12, .int .u8 (g3 : Nat)] 162 (0, 0)) := (hb1.block w.heap.size (by simp)).trans (heap_new w _)
  have n2 : w1.cell? ⟨w.heap.size, 2, none⟩ = some (.int .u8 12) := cell_of_heap hnow rfl
  have n3 : w1.cell? ⟨w.heap.size, 3, none⟩ = some (.int .u8 (g3 : Nat)) := cell_of_heap hnow rfl
  have m3 : w1.frozen? ⟨w.heap.size, 3, none⟩ = false := free_of_heap hnow
  have HN : Hid (w1.heap[w.heap.size]? = some (.cells #[.int .i64 0, .int .i64 2, .int .u8 12, .int .u8 (g3 : Nat)] 162 (0, 0))) := hnow
  have HK1 : Hid (Kp mb w L w1 L) := (((Kp.refl mb w L).alloc _).drewN _).below hb1
  have HM1 : Hid (Mc s inp n mb bs bc cs base ⟨f, a, pos, stk, cel, cal, edg⟩ false L w1) := (((HM.out.alloc _).drewN _).below hb1).1
  have hw1 : w.heap.size < w1.heap.size := by have := hb1.size; simp at this; omega
  clear hb1 hnow k0 k1 k3 k5 d0 d1 d2 d3
  obtain ⟨a6, cap6, hv6, -, hcm6, -⟩ := owns_shape HM1.out.rc
  have hlt1 := HM1.out.bx.lt
  have k6 := HM1.out.bx.cell 6 (by omega)
  rw [hv6] at k6
  have h8 : cal.length = 8 := by have := HI.out.hcl; dsimp only at this; omega
  dsimp only at k6
  rw [h8] at k6
  clear hv6
  have HP : Hid (∀ o, CStep s inp n mb bs bc cs base ⟨f, a, pos, stk, cel, cal, edg⟩ w (w1.alloc o) (.returned (.int .i64 6))) := fun o => cst_fault HS.out (by decide) (by decide) ((HK1.out.alloc o).kx HM.out) (HM1.out.alloc o) rfl rfl rfl rfl
  go_wp2_with fail
  go_ret
  exact HP.out _

end Go.Proofs.YtbmaiioecnmopaaGreatDoor
