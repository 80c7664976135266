/-
  THE PROGRAM's SIDE (package triage): step: IN. By the verifier of the loop 'triage'.
-/
import Derived.Test.YtbmaiioecnmopaaGreatDoorJ09
namespace Go.Proofs.YtbmaiioecnmopaaGreatDoor
open Go.RowKit

set_option maxHeartbeats 6400000 in
set_option maxRecDepth 100000 in
theorem cstep_1o (s inp : ByteArray) (n mb bs bc cs base : Nat) (m : Im.St) (L : Nat → Value) (w : World) (hM : Mc s inp n mb bs bc cs base m false L w) (hI : Iv s inp n m) (hop : Im.bt s m.at_ = 1) (hT : ¬ m.stk.length < Im.tk 1) (hO : 16 < m.stk.length - Im.tk 1 + Im.psh 1) :
    Calls Tryz.prog 47 #[.pointer (some ⟨mb, 0, none⟩)] w fun e w' => CStep s inp n mb bs bc cs base m w w' e := by
  have HS : Hid (Im.stepP s inp m = (m, 2)) := by
    show Im.stepP s inp m = _
    unfold Im.stepP
    rw [hop]
    rw [if_neg (show ¬ m.stk.length < Im.tk 1 from hT), if_pos (show 16 < m.stk.length - Im.tk 1 + Im.psh 1 from hO)]
  have k0 := hM.bx.cell 0 (by omega)
  have k1 := hM.bx.cell 1 (by omega)
  have k3 := hM.bx.cell 3 (by omega)
  have k5 := hM.bx.cell 5 (by omega)
  rw [hM.lm.l0] at k0
  rw [hM.lm.l1] at k1
  rw [hM.lm.l3] at k3
  obtain ⟨a5, cap5, hv5, -, hcm5, -⟩ := owns_shape hM.rs
  rw [hv5] at k5
  have d0 := hM.mf.c0 m.at_ hI.hD
  have d1 := hM.mf.c1 m.at_ hI.hD
  have d2 := hM.mf.c2 m.at_ hI.hD
  have d3 := hM.mf.c3 m.at_ hI.hD
  rw [hop] at d0 d1 d2
  rw [show Im.tk 1 = 0 from rfl] at d0 hT hO
  rw [show Im.sz 1 = 2 from rfl] at d1
  have ha := hI.ha
  have hs := hI.hs
  have hl := hI.hl
  have hlt := hM.bx.lt
  have hltc : bc < w.heap.size := by have := hM.mf.hbc; have := hM.mf.hba; omega
  rw [show ar s m.at_ = Im.bt s (m.at_ + 1) from by unfold ar; rw [hop]; rfl] at d3
  have hg256 := Im.bt_lt s (m.at_ + 1)
  obtain ⟨g3, HG⟩ : ∃ g3, Hid (Im.bt s (m.at_ + 1) = g3) := ⟨_, rfl⟩
  rw [HG.out] at d3 hg256
  have HM : Hid (Mc s inp n mb bs bc cs base m false L w) := hM
  have HI : Hid (Iv s inp n m) := hI
  clear hM hI hv5
  obtain ⟨f, a, pos, stk, cel, cal, edg⟩ := m
  dsimp only at *
  go_enter Tryz.func47, Tryz.ntmps47
  go_wp2_with fail
  go_region
  go_wp2_with fail
  go_quiet (fail)
  go_wp2_with fail
  refine (cbehind_any s inp n mb bs bc cs base ⟨f, a, pos, stk, cel, cal, edg⟩ false L f a _ ((HM.out.alloc _).drewN _) HI.out.hD ha hs).mono ?_
  rintro e w1 ⟨rfl, hb1⟩
  rw [hop, show Im.sz 1 = 2 from rfl]
  have hnow : w1.heap[w.heap.size]? = some (.cells #[.int .i64 0, .int .i64 2, .int .u8 1, .int .u8 (g3 : Nat)] 162 (0, 0)) := (hb1.block w.heap.size (by simp)).trans (heap_new w _)
  have n2 : w1.cell? ⟨w.heap.size, 2, none⟩ = some (.int .u8 1) := cell_of_heap hnow rfl
  have n3 : w1.cell? ⟨w.heap.size, 3, none⟩ = some (.int .u8 (g3 : Nat)) := cell_of_heap hnow rfl
  have m3 : w1.frozen? ⟨w.heap.size, 3, none⟩ = false := free_of_heap hnow
  have HN : Hid (w1.heap[w.heap.size]? = some (.cells #[.int .i64 0, .int .i64 2, .int .u8 1, .int .u8 (g3 : Nat)] 162 (0, 0))) := hnow
  have HK1 : Hid (Kp mb w L w1 L) := (((Kp.refl mb w L).alloc _).drewN _).below hb1
  have HM1 : Hid (Mc s inp n mb bs bc cs base ⟨f, a, pos, stk, cel, cal, edg⟩ false L w1) := (((HM.out.alloc _).drewN _).below hb1).1
  have hw1 : w.heap.size < w1.heap.size := by have := hb1.size; simp at this; omega
  clear hb1 hnow k0 k1 k3 k5 d0 d1 d2 d3
  go_wp2_with fail
  refine (cpush_full s inp n mb bs bc cs base ⟨f, a, pos, stk, cel, cal, edg⟩ false L _ _ (HM1.out.alloc _) (by show stk.length = 16; simp [Im.psh] at hO; omega)).mono ?_
  rintro e w3 ⟨rfl, rfl⟩
  have HP : Hid (∀ o, CStep s inp n mb bs bc cs base ⟨f, a, pos, stk, cel, cal, edg⟩ w (w1.alloc o) (.returned (.int .i64 2))) := fun o => cst_fault HS.out (by decide) (by decide) ((HK1.out.alloc o).kx HM.out) (HM1.out.alloc o) rfl rfl rfl rfl
  go_wp2_with fail
  go_ret
  exact HP.out _

set_option maxHeartbeats 6400000 in
set_option maxRecDepth 100000 in
theorem cstep_13a (s inp : ByteArray) (n mb bs bc cs base : Nat) (m : Im.St) (L : Nat → Value) (w : World) (hM : Mc s inp n mb bs bc cs base m false L w) (hI : Iv s inp n m) (hop : Im.bt s m.at_ = 13) (hT : ¬ m.stk.length < Im.tk 13) (hO : ¬ 16 < m.stk.length - Im.tk 13 + Im.psh 13) (hx : m.pos < inp.size) :
    Calls Tryz.prog 47 #[.pointer (some ⟨mb, 0, none⟩)] w fun e w' => CStep s inp n mb bs bc cs base m w w' e := by
  have HS : Hid (Im.stepP s inp m = ({ m with stk := m.stk ++ [Im.bt inp m.pos], pos := m.pos + 1, at_ := m.at_ + 1 }, 0)) := by
    show Im.stepP s inp m = _
    unfold Im.stepP
    rw [hop]
    rw [if_neg (show ¬ m.stk.length < Im.tk 13 from hT), if_neg (show ¬ 16 < m.stk.length - Im.tk 13 + Im.psh 13 from hO)]
    simp [hx]
  have k0 := hM.bx.cell 0 (by omega)
  have k1 := hM.bx.cell 1 (by omega)
  have k3 := hM.bx.cell 3 (by omega)
  have k5 := hM.bx.cell 5 (by omega)
  rw [hM.lm.l0] at k0
  rw [hM.lm.l1] at k1
  rw [hM.lm.l3] at k3
  obtain ⟨a5, cap5, hv5, -, hcm5, -⟩ := owns_shape hM.rs
  rw [hv5] at k5
  have d0 := hM.mf.c0 m.at_ hI.hD
  have d1 := hM.mf.c1 m.at_ hI.hD
  have d2 := hM.mf.c2 m.at_ hI.hD
  have d3 := hM.mf.c3 m.at_ hI.hD
  rw [hop] at d0 d1 d2
  rw [show Im.tk 13 = 0 from rfl] at d0 hT hO
  rw [show Im.sz 13 = 1 from rfl] at d1
  have ha := hI.ha
  have hs := hI.hs
  have hl := hI.hl
  have hlt := hM.bx.lt
  have hltc : bc < w.heap.size := by have := hM.mf.hbc; have := hM.mf.hba; omega
  have HM : Hid (Mc s inp n mb bs bc cs base m false L w) := hM
  have HI : Hid (Iv s inp n m) := hI
  clear hM hI hv5
  obtain ⟨f, a, pos, stk, cel, cal, edg⟩ := m
  dsimp only at *
  generalize ar s a = g3 at *
  go_enter Tryz.func47, Tryz.ntmps47
  go_wp2_with fail
  go_region
  go_wp2_with fail
  go_quiet (fail)
  go_wp2_with fail
  refine (cbehind_any s inp n mb bs bc cs base ⟨f, a, pos, stk, cel, cal, edg⟩ false L f a _ ((HM.out.alloc _).drewN _) HI.out.hD ha hs).mono ?_
  rintro e w1 ⟨rfl, hb1⟩
  rw [hop, show Im.sz 13 = 1 from rfl]
  have hnow : w1.heap[w.heap.size]? = some (.cells #[.int .i64 0, .int .i64 1, .int .u8 13, .int .u8 (g3 : Nat)] 162 (0, 0)) := (hb1.block w.heap.size (by simp)).trans (heap_new w _)
  have n2 : w1.cell? ⟨w.heap.size, 2, none⟩ = some (.int .u8 13) := cell_of_heap hnow rfl
  have n3 : w1.cell? ⟨w.heap.size, 3, none⟩ = some (.int .u8 (g3 : Nat)) := cell_of_heap hnow rfl
  have m3 : w1.frozen? ⟨w.heap.size, 3, none⟩ = false := free_of_heap hnow
  have HN : Hid (w1.heap[w.heap.size]? = some (.cells #[.int .i64 0, .int .i64 1, .int .u8 13, .int .u8 (g3 : Nat)] 162 (0, 0))) := hnow
  have HK1 : Hid (Kp mb w L w1 L) := (((Kp.refl mb w L).alloc _).drewN _).below hb1
  have HM1 : Hid (Mc s inp n mb bs bc cs base ⟨f, a, pos, stk, cel, cal, edg⟩ false L w1) := (((HM.out.alloc _).drewN _).below hb1).1
  have hw1 : w.heap.size < w1.heap.size := by have := hb1.size; simp at this; omega
  clear hb1 hnow k0 k1 k3 k5 d0 d1 d2 d3
  go_wp2_with fail
  refine (cnext_some s inp n mb bs bc cs base ⟨f, a, pos, stk, cel, cal, edg⟩ false L _ (HM1.out.alloc _) hx HI.out.hin).mono ?_
  rintro e w4 ⟨rfl, L4, hM4, hK4⟩
  go_wp2_with fail
  refine (cpush_int s inp n mb bs bc cs base ⟨f, a, pos + 1, stk, cel, cal, edg⟩ false L4 (Im.bt inp pos) _ _ hM4 (by show stk.length < 16; simp [Im.psh] at hO; omega) rfl).mono ?_
  rintro e w2 ⟨rfl, L2, hM2, hK5⟩
  have hK2 := hK4.trans hK5
  clear hM4 hK4 hK5
  have hnx : w2.heap[w1.heap.size]? = some (.cells #[.int .i64 (f : Nat), .int .i64 ((a : Int) + 1)] 34 (0, 0)) := loc_kept HM1.out (Nat.le_refl _) (heap_new w1 _) hK2
  have y0 := cell_of_heap (o := 0) hnx rfl
  have y1 := cell_of_heap (o := 1) hnx rfl
  clear hnx
  have k0 := hM2.bx.cell 0 (by omega)
  have k1 := hM2.bx.cell 1 (by omega)
  have z0 := hM2.bx.frz 0
  have z1 := hM2.bx.frz 1
  have HP : Hid (CStep s inp n mb bs bc cs base ⟨f, a, pos, stk, cel, cal, edg⟩ w ((w2.setCell ⟨mb, 0, none⟩ (.int .i64 (f : Nat))).setCell ⟨mb, 1, none⟩ (.int .i64 ((a : Int) + 1))) (.returned (.int .i64 0))) := cst_site HS.out (((HK1.out.alloc _).trans hK2).kx HM.out) hM2 rfl (by omega)
  clear hM2 hK2
  go_wp2_with fail
  go_ret
  exact HP.out

set_option maxHeartbeats 6400000 in
set_option maxRecDepth 100000 in
theorem cstep_13b (s inp : ByteArray) (n mb bs bc cs base : Nat) (m : Im.St) (L : Nat → Value) (w : World) (hM : Mc s inp n mb bs bc cs base m false L w) (hI : Iv s inp n m) (hop : Im.bt s m.at_ = 13) (hT : ¬ m.stk.length < Im.tk 13) (hO : ¬ 16 < m.stk.length - Im.tk 13 + Im.psh 13) (hx : ¬ m.pos < inp.size) :
    Calls Tryz.prog 47 #[.pointer (some ⟨mb, 0, none⟩)] w fun e w' => CStep s inp n mb bs bc cs base m w w' e := by
  have HS : Hid (Im.stepP s inp m = ({ m with stk := m.stk ++ [0], at_ := m.at_ + 1 }, 0)) := by
    show Im.stepP s inp m = _
    unfold Im.stepP
    rw [hop]
    rw [if_neg (show ¬ m.stk.length < Im.tk 13 from hT), if_neg (show ¬ 16 < m.stk.length - Im.tk 13 + Im.psh 13 from hO)]
    simp [hx]
  have k0 := hM.bx.cell 0 (by omega)
  have k1 := hM.bx.cell 1 (by omega)
  have k3 := hM.bx.cell 3 (by omega)
  have k5 := hM.bx.cell 5 (by omega)
  rw [hM.lm.l0] at k0
  rw [hM.lm.l1] at k1
  rw [hM.lm.l3] at k3
  obtain ⟨a5, cap5, hv5, -, hcm5, -⟩ := owns_shape hM.rs
  rw [hv5] at k5
  have d0 := hM.mf.c0 m.at_ hI.hD
  have d1 := hM.mf.c1 m.at_ hI.hD
  have d2 := hM.mf.c2 m.at_ hI.hD
  have d3 := hM.mf.c3 m.at_ hI.hD
  rw [hop] at d0 d1 d2
  rw [show Im.tk 13 = 0 from rfl] at d0 hT hO
  rw [show Im.sz 13 = 1 from rfl] at d1
  have ha := hI.ha
  have hs := hI.hs
  have hl := hI.hl
  have hlt := hM.bx.lt
  have hltc : bc < w.heap.size := by have := hM.mf.hbc; have := hM.mf.hba; omega
  have HM : Hid (Mc s inp n mb bs bc cs base m false L w) := hM
  have HI : Hid (Iv s inp n m) := hI
  clear hM hI hv5
  obtain ⟨f, a, pos, stk, cel, cal, edg⟩ := m
  dsimp only at *
  generalize ar s a = g3 at *
  go_enter Tryz.func47, Tryz.ntmps47
  go_wp2_with fail
  go_region
  go_wp2_with fail
  go_quiet (fail)
  go_wp2_with fail
  refine (cbehind_any s inp n mb bs bc cs base ⟨f, a, pos, stk, cel, cal, edg⟩ false L f a _ ((HM.out.alloc _).drewN _) HI.out.hD ha hs).mono ?_
  rintro e w1 ⟨rfl, hb1⟩
  rw [hop, show Im.sz 13 = 1 from rfl]
  have hnow : w1.heap[w.heap.size]? = some (.cells #[.int .i64 0, .int .i64 1, .int .u8 13, .int .u8 (g3 : Nat)] 162 (0, 0)) := (hb1.block w.heap.size (by simp)).trans (heap_new w _)
  have n2 : w1.cell? ⟨w.heap.size, 2, none⟩ = some (.int .u8 13) := cell_of_heap hnow rfl
  have n3 : w1.cell? ⟨w.heap.size, 3, none⟩ = some (.int .u8 (g3 : Nat)) := cell_of_heap hnow rfl
  have m3 : w1.frozen? ⟨w.heap.size, 3, none⟩ = false := free_of_heap hnow
  have HN : Hid (w1.heap[w.heap.size]? = some (.cells #[.int .i64 0, .int .i64 1, .int .u8 13, .int .u8 (g3 : Nat)] 162 (0, 0))) := hnow
  have HK1 : Hid (Kp mb w L w1 L) := (((Kp.refl mb w L).alloc _).drewN _).below hb1
  have HM1 : Hid (Mc s inp n mb bs bc cs base ⟨f, a, pos, stk, cel, cal, edg⟩ false L w1) := (((HM.out.alloc _).drewN _).below hb1).1
  have hw1 : w.heap.size < w1.heap.size := by have := hb1.size; simp at this; omega
  clear hb1 hnow k0 k1 k3 k5 d0 d1 d2 d3
  go_wp2_with fail
  refine (cnext_none s inp n mb bs bc cs base ⟨f, a, pos, stk, cel, cal, edg⟩ false L _ (HM1.out.alloc _) hx).mono ?_
  rintro e w4 ⟨rfl, rfl⟩
  go_wp2_with fail
  refine (cpush_int s inp n mb bs bc cs base ⟨f, a, pos, stk, cel, cal, edg⟩ false L 0 _ _ (HM1.out.alloc _) (by show stk.length < 16; simp [Im.psh] at hO; omega) rfl).mono ?_
  rintro e w2 ⟨rfl, L2, hM2, hK2⟩
  have hnx : w2.heap[w1.heap.size]? = some (.cells #[.int .i64 (f : Nat), .int .i64 ((a : Int) + 1)] 34 (0, 0)) := loc_kept HM1.out (Nat.le_refl _) (heap_new w1 _) hK2
  have y0 := cell_of_heap (o := 0) hnx rfl
  have y1 := cell_of_heap (o := 1) hnx rfl
  clear hnx
  have k0 := hM2.bx.cell 0 (by omega)
  have k1 := hM2.bx.cell 1 (by omega)
  have z0 := hM2.bx.frz 0
  have z1 := hM2.bx.frz 1
  have HP : Hid (CStep s inp n mb bs bc cs base ⟨f, a, pos, stk, cel, cal, edg⟩ w ((w2.setCell ⟨mb, 0, none⟩ (.int .i64 (f : Nat))).setCell ⟨mb, 1, none⟩ (.int .i64 ((a : Int) + 1))) (.returned (.int .i64 0))) := cst_site HS.out (((HK1.out.alloc _).trans hK2).kx HM.out) hM2 rfl (by omega)
  clear hM2 hK2
  go_wp2_with fail
  go_ret
  exact HP.out

set_option maxHeartbeats 6400000 in
set_option maxRecDepth 100000 in
theorem cstep_13ao (s inp : ByteArray) (n mb bs bc cs base : Nat) (m : Im.St) (L : Nat → Value) (w : World) (hM : Mc s inp n mb bs bc cs base m false L w) (hI : Iv s inp n m) (hop : Im.bt s m.at_ = 13) (hT : ¬ m.stk.length < Im.tk 13) (hO : 16 < m.stk.length - Im.tk 13 + Im.psh 13) (hx : m.pos < inp.size) :
    Calls Tryz.prog 47 #[.pointer (some ⟨mb, 0, none⟩)] w fun e w' => CStep s inp n mb bs bc cs base m w w' e := by
  have HS : Hid (Im.stepP s inp m = (m, 2)) := by
    show Im.stepP s inp m = _
    unfold Im.stepP
    rw [hop]
    rw [if_neg (show ¬ m.stk.length < Im.tk 13 from hT), if_pos (show 16 < m.stk.length - Im.tk 13 + Im.psh 13 from hO)]
  have k0 := hM.bx.cell 0 (by omega)
  have k1 := hM.bx.cell 1 (by omega)
  have k3 := hM.bx.cell 3 (by omega)
  have k5 := hM.bx.cell 5 (by omega)
  rw [hM.lm.l0] at k0
  rw [hM.lm.l1] at k1
  rw [hM.lm.l3] at k3
  obtain ⟨a5, cap5, hv5, -, hcm5, -⟩ := owns_shape hM.rs
  rw [hv5] at k5
  have d0 := hM.mf.c0 m.at_ hI.hD
  have d1 := hM.mf.c1 m.at_ hI.hD
  have d2 := hM.mf.c2 m.at_ hI.hD
  have d3 := hM.mf.c3 m.at_ hI.hD
  rw [hop] at d0 d1 d2
  rw [show Im.tk 13 = 0 from rfl] at d0 hT hO
  rw [show Im.sz 13 = 1 from rfl] at d1
  have ha := hI.ha
  have hs := hI.hs
  have hl := hI.hl
  have hlt := hM.bx.lt
  have hltc : bc < w.heap.size := by have := hM.mf.hbc; have := hM.mf.hba; omega
  have HM : Hid (Mc s inp n mb bs bc cs base m false L w) := hM
  have HI : Hid (Iv s inp n m) := hI
  clear hM hI hv5
  obtain ⟨f, a, pos, stk, cel, cal, edg⟩ := m
  dsimp only at *
  generalize ar s a = g3 at *
  go_enter Tryz.func47, Tryz.ntmps47
  go_wp2_with fail
  go_region
  go_wp2_with fail
  go_quiet (fail)
  go_wp2_with fail
  refine (cbehind_any s inp n mb bs bc cs base ⟨f, a, pos, stk, cel, cal, edg⟩ false L f a _ ((HM.out.alloc _).drewN _) HI.out.hD ha hs).mono ?_
  rintro e w1 ⟨rfl, hb1⟩
  rw [hop, show Im.sz 13 = 1 from rfl]
  have hnow : w1.heap[w.heap.size]? = some (.cells #[.int .i64 0, .int .i64 1, .int .u8 13, .int .u8 (g3 : Nat)] 162 (0, 0)) := (hb1.block w.heap.size (by simp)).trans (heap_new w _)
  have n2 : w1.cell? ⟨w.heap.size, 2, none⟩ = some (.int .u8 13) := cell_of_heap hnow rfl
  have n3 : w1.cell? ⟨w.heap.size, 3, none⟩ = some (.int .u8 (g3 : Nat)) := cell_of_heap hnow rfl
  have m3 : w1.frozen? ⟨w.heap.size, 3, none⟩ = false := free_of_heap hnow
  have HN : Hid (w1.heap[w.heap.size]? = some (.cells #[.int .i64 0, .int .i64 1, .int .u8 13, .int .u8 (g3 : Nat)] 162 (0, 0))) := hnow
  have HK1 : Hid (Kp mb w L w1 L) := (((Kp.refl mb w L).alloc _).drewN _).below hb1
  have HM1 : Hid (Mc s inp n mb bs bc cs base ⟨f, a, pos, stk, cel, cal, edg⟩ false L w1) := (((HM.out.alloc _).drewN _).below hb1).1
  have hw1 : w.heap.size < w1.heap.size := by have := hb1.size; simp at this; omega
  clear hb1 hnow k0 k1 k3 k5 d0 d1 d2 d3
  go_wp2_with fail
  refine (cnext_some s inp n mb bs bc cs base ⟨f, a, pos, stk, cel, cal, edg⟩ false L _ (HM1.out.alloc _) hx HI.out.hin).mono ?_
  rintro e w2 ⟨rfl, L2, hM2, hK2⟩
  go_wp2_with fail
  refine (cpush_full s inp n mb bs bc cs base ⟨f, a, pos + 1, stk, cel, cal, edg⟩ false L2 _ _ hM2 (by show stk.length = 16; simp [Im.psh] at hO; omega)).mono ?_
  rintro e w3 ⟨rfl, rfl⟩
  have HP : Hid (CStep s inp n mb bs bc cs base ⟨f, a, pos, stk, cel, cal, edg⟩ w w2 (.returned (.int .i64 2))) := cst_fault HS.out (by decide) (by decide) (((HK1.out.alloc _).trans hK2).kx HM.out) hM2 rfl rfl rfl rfl
  clear hM2 hK2
  go_wp2_with fail
  go_ret
  exact HP.out

set_option maxHeartbeats 6400000 in
set_option maxRecDepth 100000 in
theorem cstep_13bo (s inp : ByteArray) (n mb bs bc cs base : Nat) (m : Im.St) (L : Nat → Value) (w : World) (hM : Mc s inp n mb bs bc cs base m false L w) (hI : Iv s inp n m) (hop : Im.bt s m.at_ = 13) (hT : ¬ m.stk.length < Im.tk 13) (hO : 16 < m.stk.length - Im.tk 13 + Im.psh 13) (hx : ¬ m.pos < inp.size) :
    Calls Tryz.prog 47 #[.pointer (some ⟨mb, 0, none⟩)] w fun e w' => CStep s inp n mb bs bc cs base m w w' e := by
  have HS : Hid (Im.stepP s inp m = (m, 2)) := by
    show Im.stepP s inp m = _
    unfold Im.stepP
    rw [hop]
    rw [if_neg (show ¬ m.stk.length < Im.tk 13 from hT), if_pos (show 16 < m.stk.length - Im.tk 13 + Im.psh 13 from hO)]
  have k0 := hM.bx.cell 0 (by omega)
  have k1 := hM.bx.cell 1 (by omega)
  have k3 := hM.bx.cell 3 (by omega)
  have k5 := hM.bx.cell 5 (by omega)
  rw [hM.lm.l0] at k0
  rw [hM.lm.l1] at k1
  rw [hM.lm.l3] at k3
  obtain ⟨a5, cap5, hv5, -, hcm5, -⟩ := owns_shape hM.rs
  rw [hv5] at k5
  have d0 := hM.mf.c0 m.at_ hI.hD
  have d1 := hM.mf.c1 m.at_ hI.hD
  have d2 := hM.mf.c2 m.at_ hI.hD
  have d3 := hM.mf.c3 m.at_ hI.hD
  rw [hop] at d0 d1 d2
  rw [show Im.tk 13 = 0 from rfl] at d0 hT hO
  rw [show Im.sz 13 = 1 from rfl] at d1
  have ha := hI.ha
  have hs := hI.hs
  have hl := hI.hl
  have hlt := hM.bx.lt
  have hltc : bc < w.heap.size := by have := hM.mf.hbc; have := hM.mf.hba; omega
  have HM : Hid (Mc s inp n mb bs bc cs base m false L w) := hM
  have HI : Hid (Iv s inp n m) := hI
  clear hM hI hv5
  obtain ⟨f, a, pos, stk, cel, cal, edg⟩ := m
  dsimp only at *
  generalize ar s a = g3 at *
  go_enter Tryz.func47, Tryz.ntmps47
  go_wp2_with fail
  go_region
  go_wp2_with fail
  go_quiet (fail)
  go_wp2_with fail
  refine (cbehind_any s inp n mb bs bc cs base ⟨f, a, pos, stk, cel, cal, edg⟩ false L f a _ ((HM.out.alloc _).drewN _) HI.out.hD ha hs).mono ?_
  rintro e w1 ⟨rfl, hb1⟩
  rw [hop, show Im.sz 13 = 1 from rfl]
  have hnow : w1.heap[w.heap.size]? = some (.cells #[.int .i64 0, .int .i64 1, .int .u8 13, .int .u8 (g3 : Nat)] 162 (0, 0)) := (hb1.block w.heap.size (by simp)).trans (heap_new w _)
  have n2 : w1.cell? ⟨w.heap.size, 2, none⟩ = some (.int .u8 13) := cell_of_heap hnow rfl
  have n3 : w1.cell? ⟨w.heap.size, 3, none⟩ = some (.int .u8 (g3 : Nat)) := cell_of_heap hnow rfl
  have m3 : w1.frozen? ⟨w.heap.size, 3, none⟩ = false := free_of_heap hnow
  have HN : Hid (w1.heap[w.heap.size]? = some (.cells #[.int .i64 0, .int .i64 1, .int .u8 13, .int .u8 (g3 : Nat)] 162 (0, 0))) := hnow
  have HK1 : Hid (Kp mb w L w1 L) := (((Kp.refl mb w L).alloc _).drewN _).below hb1
  have HM1 : Hid (Mc s inp n mb bs bc cs base ⟨f, a, pos, stk, cel, cal, edg⟩ false L w1) := (((HM.out.alloc _).drewN _).below hb1).1
  have hw1 : w.heap.size < w1.heap.size := by have := hb1.size; simp at this; omega
  clear hb1 hnow k0 k1 k3 k5 d0 d1 d2 d3
  go_wp2_with fail
  refine (cnext_none s inp n mb bs bc cs base ⟨f, a, pos, stk, cel, cal, edg⟩ false L _ (HM1.out.alloc _) hx).mono ?_
  rintro e w4 ⟨rfl, rfl⟩
  go_wp2_with fail
  refine (cpush_full s inp n mb bs bc cs base ⟨f, a, pos, stk, cel, cal, edg⟩ false L _ _ (HM1.out.alloc _) (by show stk.length = 16; simp [Im.psh] at hO; omega)).mono ?_
  rintro e w3 ⟨rfl, rfl⟩
  have HP : Hid (∀ o, CStep s inp n mb bs bc cs base ⟨f, a, pos, stk, cel, cal, edg⟩ w (w1.alloc o) (.returned (.int .i64 2))) := fun o => cst_fault HS.out (by decide) (by decide) ((HK1.out.alloc o).kx HM.out) (HM1.out.alloc o) rfl rfl rfl rfl
  go_wp2_with fail
  go_ret
  exact HP.out _

end Go.Proofs.YtbmaiioecnmopaaGreatDoor
