/-
  MacHD, MacHE: THESE TEXTS, JOINED. By the verifier of the loop 'triage'.
-/
import Derived.Test.YtbmaiioecnmopaaGreatDoorJ09
/-
  THE PROGRAM's SIDE (package triage): step: LOAD. By the verifier of the loop 'triage'.
-/
namespace Go.Proofs.YtbmaiioecnmopaaGreatDoor
open Go.RowKit

set_option maxHeartbeats 6400000 in
set_option maxRecDepth 100000 in
theorem cstep_15a (s inp : ByteArray) (n mb bs bc cs base : Nat) (m : Im.St) (L : Nat → Value) (w : World) (hM : Mc s inp n mb bs bc cs base m false L w) (hI : Iv s inp n m) (hop : Im.bt s m.at_ = 15) (hT : ¬ m.stk.length < Im.tk 15) (hO : ¬ 16 < m.stk.length - Im.tk 15 + Im.psh 15) (hx : 16 ≤ Im.top m.stk) :
    Calls Tryz.prog 47 #[.pointer (some ⟨mb, 0, none⟩)] w fun e w' => CStep s inp n mb bs bc cs base m w w' e := by
  have HS : Hid (Im.stepP s inp m = (m, 4)) := by
    show Im.stepP s inp m = _
    unfold Im.stepP
    rw [hop]
    rw [if_neg (show ¬ m.stk.length < Im.tk 15 from hT), if_neg (show ¬ 16 < m.stk.length - Im.tk 15 + Im.psh 15 from hO)]
    simp [hx]
  have k0 := hM.bx.cell 0 (by omega)
  have k1 := hM.bx.cell 1 (by omega)
  have k3 := hM.bx.cell 3 (by omega)
  have k5 := hM.bx.cell 5 (by omega)
  rw [hM.lm.l0] at k0
  rw [hM.lm.l1] at k1
  rw [hM.lm.l3] at k3
  obtain ⟨a5, cap5, hv5, -, hcm5, -⟩ := owns_shape hM.rs
  rw [hv5] at k5
  have d0 := hM.mf.c0 m.at_ hI.hD
  have d1 := hM.mf.c1 m.at_ hI.hD
  have d2 := hM.mf.c2 m.at_ hI.hD
  have d3 := hM.mf.c3 m.at_ hI.hD
  rw [hop] at d0 d1 d2
  rw [show Im.tk 15 = 1 from rfl] at d0 hT hO
  rw [show Im.sz 15 = 1 from rfl] at d1
  have ha := hI.ha
  have hs := hI.hs
  have hl := hI.hl
  have hlt := hM.bx.lt
  have hltc : bc < w.heap.size := by have := hM.mf.hbc; have := hM.mf.hba; omega
  have HM : Hid (Mc s inp n mb bs bc cs base m false L w) := hM
  have HI : Hid (Iv s inp n m) := hI
  clear hM hI hv5
  obtain ⟨f, a, pos, stk, cel, cal, edg⟩ := m
  dsimp only at *
  generalize ar s a = g3 at *
  go_enter Tryz.func47, Tryz.ntmps47
  go_wp2_with fail
  go_region
  go_wp2_with fail
  go_quiet (fail)
  go_wp2_with fail
  refine (cbehind_any s inp n mb bs bc cs base ⟨f, a, pos, stk, cel, cal, edg⟩ false L f a _ ((HM.out.alloc _).drewN _) HI.out.hD ha hs).mono ?_
  rintro e w1 ⟨rfl, hb1⟩
  rw [hop, show Im.sz 15 = 1 from rfl]
  have hnow : w1.heap[w.heap.size]? = some (.cells #[.int .i64 1, .int .i64 1, .int .u8 15, .int .u8 (g3 : Nat)] 162 (0, 0)) := (hb1.block w.heap.size (by simp)).trans (heap_new w _)
  have n2 : w1.cell? ⟨w.heap.size, 2, none⟩ = some (.int .u8 15) := cell_of_heap hnow rfl
  have n3 : w1.cell? ⟨w.heap.size, 3, none⟩ = some (.int .u8 (g3 : Nat)) := cell_of_heap hnow rfl
  have m3 : w1.frozen? ⟨w.heap.size, 3, none⟩ = false := free_of_heap hnow
  have HN : Hid (w1.heap[w.heap.size]? = some (.cells #[.int .i64 1, .int .i64 1, .int .u8 15, .int .u8 (g3 : Nat)] 162 (0, 0))) := hnow
  have HK1 : Hid (Kp mb w L w1 L) := (((Kp.refl mb w L).alloc _).drewN _).below hb1
  have HM1 : Hid (Mc s inp n mb bs bc cs base ⟨f, a, pos, stk, cel, cal, edg⟩ false L w1) := (((HM.out.alloc _).drewN _).below hb1).1
  have hw1 : w.heap.size < w1.heap.size := by have := hb1.size; simp at this; omega
  clear hb1 hnow k0 k1 k3 k5 d0 d1 d2 d3
  go_wp2_with fail
  refine (creach_wild s inp n mb bs bc cs base ⟨f, a, pos, stk, cel, cal, edg⟩ L 15 _ (HM1.out.alloc _) (by show 1 ≤ stk.length; omega) hl (by exact hx)).mono ?_
  rintro e w2 ⟨rfl, L2, hM2, hK2⟩
  have HP : Hid (CStep s inp n mb bs bc cs base ⟨f, a, pos, stk, cel, cal, edg⟩ w w2 (.returned (.int .i64 4))) := cst_fault HS.out (by decide) (by decide) (((HK1.out.alloc _).trans hK2).kx HM.out) hM2 rfl rfl rfl rfl
  clear hM2 hK2
  go_wp2_with fail
  go_ret
  exact HP.out

set_option maxHeartbeats 6400000 in
set_option maxRecDepth 100000 in
theorem cstep_15b (s inp : ByteArray) (n mb bs bc cs base : Nat) (m : Im.St) (L : Nat → Value) (w : World) (hM : Mc s inp n mb bs bc cs base m false L w) (hI : Iv s inp n m) (hop : Im.bt s m.at_ = 15) (hT : ¬ m.stk.length < Im.tk 15) (hO : ¬ 16 < m.stk.length - Im.tk 15 + Im.psh 15) (hx : Im.top m.stk < 16) :
    Calls Tryz.prog 47 #[.pointer (some ⟨mb, 0, none⟩)] w fun e w' => CStep s inp n mb bs bc cs base m w w' e := by
  have HS : Hid (Im.stepP s inp m = ({ m with stk := m.stk.take (m.stk.length - 1) ++ [m.cel (Im.top m.stk)], at_ := m.at_ + 1 }, 0)) := by
    show Im.stepP s inp m = _
    unfold Im.stepP
    rw [hop]
    rw [if_neg (show ¬ m.stk.length < Im.tk 15 from hT), if_neg (show ¬ 16 < m.stk.length - Im.tk 15 + Im.psh 15 from hO)]
    simp [show ¬ 16 ≤ Im.top m.stk by omega]
  have k0 := hM.bx.cell 0 (by omega)
  have k1 := hM.bx.cell 1 (by omega)
  have k3 := hM.bx.cell 3 (by omega)
  have k5 := hM.bx.cell 5 (by omega)
  rw [hM.lm.l0] at k0
  rw [hM.lm.l1] at k1
  rw [hM.lm.l3] at k3
  obtain ⟨a5, cap5, hv5, -, hcm5, -⟩ := owns_shape hM.rs
  rw [hv5] at k5
  have d0 := hM.mf.c0 m.at_ hI.hD
  have d1 := hM.mf.c1 m.at_ hI.hD
  have d2 := hM.mf.c2 m.at_ hI.hD
  have d3 := hM.mf.c3 m.at_ hI.hD
  rw [hop] at d0 d1 d2
  rw [show Im.tk 15 = 1 from rfl] at d0 hT hO
  rw [show Im.sz 15 = 1 from rfl] at d1
  have ha := hI.ha
  have hs := hI.hs
  have hl := hI.hl
  have hlt := hM.bx.lt
  have hltc : bc < w.heap.size := by have := hM.mf.hbc; have := hM.mf.hba; omega
  have HM : Hid (Mc s inp n mb bs bc cs base m false L w) := hM
  have HI : Hid (Iv s inp n m) := hI
  clear hM hI hv5
  obtain ⟨f, a, pos, stk, cel, cal, edg⟩ := m
  dsimp only at *
  generalize ar s a = g3 at *
  go_enter Tryz.func47, Tryz.ntmps47
  go_wp2_with fail
  go_region
  go_wp2_with fail
  go_quiet (fail)
  go_wp2_with fail
  refine (cbehind_any s inp n mb bs bc cs base ⟨f, a, pos, stk, cel, cal, edg⟩ false L f a _ ((HM.out.alloc _).drewN _) HI.out.hD ha hs).mono ?_
  rintro e w1 ⟨rfl, hb1⟩
  rw [hop, show Im.sz 15 = 1 from rfl]
  have hnow : w1.heap[w.heap.size]? = some (.cells #[.int .i64 1, .int .i64 1, .int .u8 15, .int .u8 (g3 : Nat)] 162 (0, 0)) := (hb1.block w.heap.size (by simp)).trans (heap_new w _)
  have n2 : w1.cell? ⟨w.heap.size, 2, none⟩ = some (.int .u8 15) := cell_of_heap hnow rfl
  have n3 : w1.cell? ⟨w.heap.size, 3, none⟩ = some (.int .u8 (g3 : Nat)) := cell_of_heap hnow rfl
  have m3 : w1.frozen? ⟨w.heap.size, 3, none⟩ = false := free_of_heap hnow
  have HN : Hid (w1.heap[w.heap.size]? = some (.cells #[.int .i64 1, .int .i64 1, .int .u8 15, .int .u8 (g3 : Nat)] 162 (0, 0))) := hnow
  have HK1 : Hid (Kp mb w L w1 L) := (((Kp.refl mb w L).alloc _).drewN _).below hb1
  have HM1 : Hid (Mc s inp n mb bs bc cs base ⟨f, a, pos, stk, cel, cal, edg⟩ false L w1) := (((HM.out.alloc _).drewN _).below hb1).1
  have hw1 : w.heap.size < w1.heap.size := by have := hb1.size; simp at this; omega
  clear hb1 hnow k0 k1 k3 k5 d0 d1 d2 d3
  go_wp2_with fail
  refine (creach_load s inp n mb bs bc cs base ⟨f, a, pos, stk, cel, cal, edg⟩ L _ (HM1.out.alloc _) (by show 1 ≤ stk.length; omega) hl (by exact hx)).mono ?_
  rintro e w2 ⟨rfl, L2, hM2, hK2⟩
  have hnx : w2.heap[w1.heap.size]? = some (.cells #[.int .i64 (f : Nat), .int .i64 ((a : Int) + 1)] 34 (0, 0)) := loc_kept HM1.out (Nat.le_refl _) (heap_new w1 _) hK2
  have y0 := cell_of_heap (o := 0) hnx rfl
  have y1 := cell_of_heap (o := 1) hnx rfl
  clear hnx
  have k0 := hM2.bx.cell 0 (by omega)
  have k1 := hM2.bx.cell 1 (by omega)
  have z0 := hM2.bx.frz 0
  have z1 := hM2.bx.frz 1
  have HP : Hid (CStep s inp n mb bs bc cs base ⟨f, a, pos, stk, cel, cal, edg⟩ w ((w2.setCell ⟨mb, 0, none⟩ (.int .i64 (f : Nat))).setCell ⟨mb, 1, none⟩ (.int .i64 ((a : Int) + 1))) (.returned (.int .i64 0))) := cst_site HS.out (((HK1.out.alloc _).trans hK2).kx HM.out) hM2 rfl (by omega)
  clear hM2 hK2
  go_wp2_with fail
  go_ret
  exact HP.out

end Go.Proofs.YtbmaiioecnmopaaGreatDoor

/-
  THE PROGRAM's SIDE (package triage): step: STORE. By the verifier of the loop 'triage'.
-/
namespace Go.Proofs.YtbmaiioecnmopaaGreatDoor
open Go.RowKit

set_option maxHeartbeats 6400000 in
set_option maxRecDepth 100000 in
theorem cstep_16a (s inp : ByteArray) (n mb bs bc cs base : Nat) (m : Im.St) (L : Nat → Value) (w : World) (hM : Mc s inp n mb bs bc cs base m false L w) (hI : Iv s inp n m) (hop : Im.bt s m.at_ = 16) (hT : ¬ m.stk.length < Im.tk 16) (hO : ¬ 16 < m.stk.length - Im.tk 16 + Im.psh 16) (hx : 16 ≤ Im.top m.stk) :
    Calls Tryz.prog 47 #[.pointer (some ⟨mb, 0, none⟩)] w fun e w' => CStep s inp n mb bs bc cs base m w w' e := by
  have HS : Hid (Im.stepP s inp m = (m, 4)) := by
    show Im.stepP s inp m = _
    unfold Im.stepP
    rw [hop]
    rw [if_neg (show ¬ m.stk.length < Im.tk 16 from hT), if_neg (show ¬ 16 < m.stk.length - Im.tk 16 + Im.psh 16 from hO)]
    simp [hx]
  have k0 := hM.bx.cell 0 (by omega)
  have k1 := hM.bx.cell 1 (by omega)
  have k3 := hM.bx.cell 3 (by omega)
  have k5 := hM.bx.cell 5 (by omega)
  rw [hM.lm.l0] at k0
  rw [hM.lm.l1] at k1
  rw [hM.lm.l3] at k3
  obtain ⟨a5, cap5, hv5, -, hcm5, -⟩ := owns_shape hM.rs
  rw [hv5] at k5
  have d0 := hM.mf.c0 m.at_ hI.hD
  have d1 := hM.mf.c1 m.at_ hI.hD
  have d2 := hM.mf.c2 m.at_ hI.hD
  have d3 := hM.mf.c3 m.at_ hI.hD
  rw [hop] at d0 d1 d2
  rw [show Im.tk 16 = 2 from rfl] at d0 hT hO
  rw [show Im.sz 16 = 1 from rfl] at d1
  have ha := hI.ha
  have hs := hI.hs
  have hl := hI.hl
  have hlt := hM.bx.lt
  have hltc : bc < w.heap.size := by have := hM.mf.hbc; have := hM.mf.hba; omega
  have HM : Hid (Mc s inp n mb bs bc cs base m false L w) := hM
  have HI : Hid (Iv s inp n m) := hI
  clear hM hI hv5
  obtain ⟨f, a, pos, stk, cel, cal, edg⟩ := m
  dsimp only at *
  generalize ar s a = g3 at *
  go_enter Tryz.func47, Tryz.ntmps47
  go_wp2_with fail
  go_region
  go_wp2_with fail
  go_quiet (fail)
  go_wp2_with fail
  refine (cbehind_any s inp n mb bs bc cs base ⟨f, a, pos, stk, cel, cal, edg⟩ false L f a _ ((HM.out.alloc _).drewN _) HI.out.hD ha hs).mono ?_
  rintro e w1 ⟨rfl, hb1⟩
  rw [hop, show Im.sz 16 = 1 from rfl]
  have hnow : w1.heap[w.heap.size]? = some (.cells #[.int .i64 2, .int .i64 1, .int .u8 16, .int .u8 (g3 : Nat)] 162 (0, 0)) := (hb1.block w.heap.size (by simp)).trans (heap_new w _)
  have n2 : w1.cell? ⟨w.heap.size, 2, none⟩ = some (.int .u8 16) := cell_of_heap hnow rfl
  have n3 : w1.cell? ⟨w.heap.size, 3, none⟩ = some (.int .u8 (g3 : Nat)) := cell_of_heap hnow rfl
  have m3 : w1.frozen? ⟨w.heap.size, 3, none⟩ = false := free_of_heap hnow
  have HN : Hid (w1.heap[w.heap.size]? = some (.cells #[.int .i64 2, .int .i64 1, .int .u8 16, .int .u8 (g3 : Nat)] 162 (0, 0))) := hnow
  have HK1 : Hid (Kp mb w L w1 L) := (((Kp.refl mb w L).alloc _).drewN _).below hb1
  have HM1 : Hid (Mc s inp n mb bs bc cs base ⟨f, a, pos, stk, cel, cal, edg⟩ false L w1) := (((HM.out.alloc _).drewN _).below hb1).1
  have hw1 : w.heap.size < w1.heap.size := by have := hb1.size; simp at this; omega
  clear hb1 hnow k0 k1 k3 k5 d0 d1 d2 d3
  go_wp2_with fail
  refine (creach_wild s inp n mb bs bc cs base ⟨f, a, pos, stk, cel, cal, edg⟩ L 16 _ (HM1.out.alloc _) (by show 1 ≤ stk.length; omega) hl (by exact hx)).mono ?_
  rintro e w2 ⟨rfl, L2, hM2, hK2⟩
  have HP : Hid (CStep s inp n mb bs bc cs base ⟨f, a, pos, stk, cel, cal, edg⟩ w w2 (.returned (.int .i64 4))) := cst_fault HS.out (by decide) (by decide) (((HK1.out.alloc _).trans hK2).kx HM.out) hM2 rfl rfl rfl rfl
  clear hM2 hK2
  go_wp2_with fail
  go_ret
  exact HP.out

set_option maxHeartbeats 6400000 in
set_option maxRecDepth 100000 in
theorem cstep_16b (s inp : ByteArray) (n mb bs bc cs base : Nat) (m : Im.St) (L : Nat → Value) (w : World) (hM : Mc s inp n mb bs bc cs base m false L w) (hI : Iv s inp n m) (hop : Im.bt s m.at_ = 16) (hT : ¬ m.stk.length < Im.tk 16) (hO : ¬ 16 < m.stk.length - Im.tk 16 + Im.psh 16) (hx : Im.top m.stk < 16) :
    Calls Tryz.prog 47 #[.pointer (some ⟨mb, 0, none⟩)] w fun e w' => CStep s inp n mb bs bc cs base m w w' e := by
  have HS : Hid (Im.stepP s inp m = ({ m with stk := m.stk.take (m.stk.length - 2), cel := Im.upc m.cel (Im.top m.stk) (Im.snd m.stk), at_ := m.at_ + 1 }, 0)) := by
    show Im.stepP s inp m = _
    unfold Im.stepP
    rw [hop]
    rw [if_neg (show ¬ m.stk.length < Im.tk 16 from hT), if_neg (show ¬ 16 < m.stk.length - Im.tk 16 + Im.psh 16 from hO)]
    simp [show ¬ 16 ≤ Im.top m.stk by omega]
  have k0 := hM.bx.cell 0 (by omega)
  have k1 := hM.bx.cell 1 (by omega)
  have k3 := hM.bx.cell 3 (by omega)
  have k5 := hM.bx.cell 5 (by omega)
  rw [hM.lm.l0] at k0
  rw [hM.lm.l1] at k1
  rw [hM.lm.l3] at k3
  obtain ⟨a5, cap5, hv5, -, hcm5, -⟩ := owns_shape hM.rs
  rw [hv5] at k5
  have d0 := hM.mf.c0 m.at_ hI.hD
  have d1 := hM.mf.c1 m.at_ hI.hD
  have d2 := hM.mf.c2 m.at_ hI.hD
  have d3 := hM.mf.c3 m.at_ hI.hD
  rw [hop] at d0 d1 d2
  rw [show Im.tk 16 = 2 from rfl] at d0 hT hO
  rw [show Im.sz 16 = 1 from rfl] at d1
  have ha := hI.ha
  have hs := hI.hs
  have hl := hI.hl
  have hlt := hM.bx.lt
  have hltc : bc < w.heap.size := by have := hM.mf.hbc; have := hM.mf.hba; omega
  have HM : Hid (Mc s inp n mb bs bc cs base m false L w) := hM
  have HI : Hid (Iv s inp n m) := hI
  clear hM hI hv5
  obtain ⟨f, a, pos, stk, cel, cal, edg⟩ := m
  dsimp only at *
  generalize ar s a = g3 at *
  go_enter Tryz.func47, Tryz.ntmps47
  go_wp2_with fail
  go_region
  go_wp2_with fail
  go_quiet (fail)
  go_wp2_with fail
  refine (cbehind_any s inp n mb bs bc cs base ⟨f, a, pos, stk, cel, cal, edg⟩ false L f a _ ((HM.out.alloc _).drewN _) HI.out.hD ha hs).mono ?_
  rintro e w1 ⟨rfl, hb1⟩
  rw [hop, show Im.sz 16 = 1 from rfl]
  have hnow : w1.heap[w.heap.size]? = some (.cells #[.int .i64 2, .int .i64 1, .int .u8 16, .int .u8 (g3 : Nat)] 162 (0, 0)) := (hb1.block w.heap.size (by simp)).trans (heap_new w _)
  have n2 : w1.cell? ⟨w.heap.size, 2, none⟩ = some (.int .u8 16) := cell_of_heap hnow rfl
  have n3 : w1.cell? ⟨w.heap.size, 3, none⟩ = some (.int .u8 (g3 : Nat)) := cell_of_heap hnow rfl
  have m3 : w1.frozen? ⟨w.heap.size, 3, none⟩ = false := free_of_heap hnow
  have HN : Hid (w1.heap[w.heap.size]? = some (.cells #[.int .i64 2, .int .i64 1, .int .u8 16, .int .u8 (g3 : Nat)] 162 (0, 0))) := hnow
  have HK1 : Hid (Kp mb w L w1 L) := (((Kp.refl mb w L).alloc _).drewN _).below hb1
  have HM1 : Hid (Mc s inp n mb bs bc cs base ⟨f, a, pos, stk, cel, cal, edg⟩ false L w1) := (((HM.out.alloc _).drewN _).below hb1).1
  have hw1 : w.heap.size < w1.heap.size := by have := hb1.size; simp at this; omega
  clear hb1 hnow k0 k1 k3 k5 d0 d1 d2 d3
  go_wp2_with fail
  refine (creach_store s inp n mb bs bc cs base ⟨f, a, pos, stk, cel, cal, edg⟩ L _ (HM1.out.alloc _) (by show 2 ≤ stk.length; omega) hl (by exact hx)).mono ?_
  rintro e w2 ⟨rfl, L2, hM2, hK2⟩
  have hnx : w2.heap[w1.heap.size]? = some (.cells #[.int .i64 (f : Nat), .int .i64 ((a : Int) + 1)] 34 (0, 0)) := loc_kept HM1.out (Nat.le_refl _) (heap_new w1 _) hK2
  have y0 := cell_of_heap (o := 0) hnx rfl
  have y1 := cell_of_heap (o := 1) hnx rfl
  clear hnx
  have k0 := hM2.bx.cell 0 (by omega)
  have k1 := hM2.bx.cell 1 (by omega)
  have z0 := hM2.bx.frz 0
  have z1 := hM2.bx.frz 1
  have HP : Hid (CStep s inp n mb bs bc cs base ⟨f, a, pos, stk, cel, cal, edg⟩ w ((w2.setCell ⟨mb, 0, none⟩ (.int .i64 (f : Nat))).setCell ⟨mb, 1, none⟩ (.int .i64 ((a : Int) + 1))) (.returned (.int .i64 0))) := cst_site HS.out (((HK1.out.alloc _).trans hK2).kx HM.out) hM2 rfl (by omega)
  clear hM2 hK2
  go_wp2_with fail
  go_ret
  exact HP.out

end Go.Proofs.YtbmaiioecnmopaaGreatDoor
