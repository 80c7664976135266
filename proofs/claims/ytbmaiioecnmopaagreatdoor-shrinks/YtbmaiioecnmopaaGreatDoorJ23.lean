/-
  MacI, MacIB: THESE TEXTS, JOINED. By the verifier of the loop 'triage'.
-/
import Derived.Test.YtbmaiioecnmopaaGreatDoorJ09
/-
  THE PROGRAM's SIDE (package triage): step: DUP. By the verifier of the loop 'triage'.
-/
namespace Go.Proofs.YtbmaiioecnmopaaGreatDoor
open Go.RowKit

set_option maxHeartbeats 6400000 in
set_option maxRecDepth 100000 in
theorem cstep_3 (s inp : ByteArray) (n mb bs bc cs base : Nat) (m : Im.St) (L : Nat → Value) (w : World) (hM : Mc s inp n mb bs bc cs base m false L w) (hI : Iv s inp n m) (hop : Im.bt s m.at_ = 3) (hT : ¬ m.stk.length < Im.tk 3) (hO : ¬ 16 < m.stk.length - Im.tk 3 + Im.psh 3) :
    Calls Tryz.prog 47 #[.pointer (some ⟨mb, 0, none⟩)] w fun e w' => CStep s inp n mb bs bc cs base m w w' e := by
  have HS : Hid (Im.stepP s inp m = ({ m with stk := m.stk ++ [Im.top m.stk], at_ := m.at_ + 1 }, 0)) := by
    show Im.stepP s inp m = _
    unfold Im.stepP
    rw [hop]
    rw [if_neg (show ¬ m.stk.length < Im.tk 3 from hT), if_neg (show ¬ 16 < m.stk.length - Im.tk 3 + Im.psh 3 from hO)]
    simp
  have k0 := hM.bx.cell 0 (by omega)
  have k1 := hM.bx.cell 1 (by omega)
  have k3 := hM.bx.cell 3 (by omega)
  have k5 := hM.bx.cell 5 (by omega)
  rw [hM.lm.l0] at k0
  rw [hM.lm.l1] at k1
  rw [hM.lm.l3] at k3
  obtain ⟨a5, cap5, hv5, -, hcm5, -⟩ := owns_shape hM.rs
  rw [hv5] at k5
  have d0 := hM.mf.c0 m.at_ hI.hD
  have d1 := hM.mf.c1 m.at_ hI.hD
  have d2 := hM.mf.c2 m.at_ hI.hD
  have d3 := hM.mf.c3 m.at_ hI.hD
  rw [hop] at d0 d1 d2
  rw [show Im.tk 3 = 1 from rfl] at d0 hT hO
  rw [show Im.sz 3 = 1 from rfl] at d1
  have ha := hI.ha
  have hs := hI.hs
  have hl := hI.hl
  have hlt := hM.bx.lt
  have hltc : bc < w.heap.size := by have := hM.mf.hbc; have := hM.mf.hba; omega
  have HM : Hid (Mc s inp n mb bs bc cs base m false L w) := hM
  have HI : Hid (Iv s inp n m) := hI
  clear hM hI hv5
  obtain ⟨f, a, pos, stk, cel, cal, edg⟩ := m
  dsimp only at *
  generalize ar s a = g3 at *
  go_enter Tryz.func47, Tryz.ntmps47
  go_wp2_with fail
  go_region
  go_wp2_with fail
  go_quiet (fail)
  go_wp2_with fail
  refine (cbehind_any s inp n mb bs bc cs base ⟨f, a, pos, stk, cel, cal, edg⟩ false L f a _ ((HM.out.alloc _).drewN _) HI.out.hD ha hs).mono ?_
  rintro e w1 ⟨rfl, hb1⟩
  rw [hop, show Im.sz 3 = 1 from rfl]
  have hnow : w1.heap[w.heap.size]? = some (.cells #[.int .i64 1, .int .i64 1, .int .u8 3, .int .u8 (g3 : Nat)] 162 (0, 0)) := (hb1.block w.heap.size (by simp)).trans (heap_new w _)
  have n2 : w1.cell? ⟨w.heap.size, 2, none⟩ = some (.int .u8 3) := cell_of_heap hnow rfl
  have n3 : w1.cell? ⟨w.heap.size, 3, none⟩ = some (.int .u8 (g3 : Nat)) := cell_of_heap hnow rfl
  have m3 : w1.frozen? ⟨w.heap.size, 3, none⟩ = false := free_of_heap hnow
  have HN : Hid (w1.heap[w.heap.size]? = some (.cells #[.int .i64 1, .int .i64 1, .int .u8 3, .int .u8 (g3 : Nat)] 162 (0, 0))) := hnow
  have HK1 : Hid (Kp mb w L w1 L) := (((Kp.refl mb w L).alloc _).drewN _).below hb1
  have HM1 : Hid (Mc s inp n mb bs bc cs base ⟨f, a, pos, stk, cel, cal, edg⟩ false L w1) := (((HM.out.alloc _).drewN _).below hb1).1
  have hw1 : w.heap.size < w1.heap.size := by have := hb1.size; simp at this; omega
  clear hb1 hnow k0 k1 k3 k5 d0 d1 d2 d3
  obtain ⟨g, cap, hv, hgb, hnc, hcm, hgl, hcells⟩ := owns_some HM1.out.rs (by show 0 < stk.length; omega)
  have k5 := HM1.out.bx.cell 5 (by omega)
  rw [hv] at k5
  have ct := hcells (stk.length - 1) _ (byts_get stk (stk.length - 1) (by omega))
  rw [show stk[stk.length - 1]?.getD 0 = Im.top stk from rfl] at ct
  have hlt1 := HM1.out.bx.lt
  have hb1 := HM.out.mf.hba
  obtain ⟨q, HQ⟩ : ∃ q, Hid (stk.length = q + 1) := ⟨stk.length - 1, by show _ = _; omega⟩
  have hq16 : q ≤ 16 := by have := HQ.out; omega
  dsimp only at k5 hnc
  rw [HQ.out] at k5 ct hnc
  rw [Nat.add_sub_cancel] at ct
  unfold maxLen at hcm
  have hgne : g ≠ w.heap.size := by
    intro e
    have := row_ne HM.out.rs (Nat.le_refl _)
    rw [hv, e] at this
    exact this rfl
  clear hcells hv
  have HW : Hid (∀ v o q, Mc s inp n mb bs bc cs base ⟨f, a, pos, stk, cel, cal, edg⟩ false L (((w1.setCell ⟨w.heap.size, 3, none⟩ v).alloc o).drewN q) ∧ Kp mb w L (((w1.setCell ⟨w.heap.size, 3, none⟩ v).alloc o).drewN q) L ∧ (((w1.setCell ⟨w.heap.size, 3, none⟩ v).alloc o).drewN q).heap[w1.heap.size]? = some o) := fun v o q =>
    ⟨((HM1.out.out w.heap.size 3 v hb1 (row_ne HM.out.rs (Nat.le_refl _)) (row_ne HM.out.rc (Nat.le_refl _))).1.alloc o).drewN q, ((HK1.out.out w.heap.size 3 v (Nat.le_refl _)).alloc o).drewN q, by have := heap_new (w1.setCell ⟨w.heap.size, 3, none⟩ v) o; simpa using this⟩
  have hneq : w1.heap.size ≠ w.heap.size := by omega
  go_wp2_with fail
  go_region
  go_wp2_with fail
  refine (cpush_int s inp n mb bs bc cs base ⟨f, a, pos, stk, cel, cal, edg⟩ false L (Im.top stk) _ _ (HW.out _ _ 1).1 (by show stk.length < 16; simp [Im.psh] at hO; omega) rfl).mono ?_
  rintro e w2 ⟨rfl, L2, hM2, hK2⟩
  have hnx : w2.heap[w1.heap.size]? = some (.cells #[.int .i64 (f : Nat), .int .i64 ((a : Int) + 1)] 34 (0, 0)) := loc_kept HM1.out (Nat.le_refl _) (HW.out (.int .u8 (Im.top stk : Nat)) (.cells #[.int .i64 (f : Nat), .int .i64 ((a : Int) + 1)] 34) 1).2.2 hK2
  have y0 := cell_of_heap (o := 0) hnx rfl
  have y1 := cell_of_heap (o := 1) hnx rfl
  clear hnx
  have k0 := hM2.bx.cell 0 (by omega)
  have k1 := hM2.bx.cell 1 (by omega)
  have z0 := hM2.bx.frz 0
  have z1 := hM2.bx.frz 1
  have HP : Hid (CStep s inp n mb bs bc cs base ⟨f, a, pos, stk, cel, cal, edg⟩ w ((w2.setCell ⟨mb, 0, none⟩ (.int .i64 (f : Nat))).setCell ⟨mb, 1, none⟩ (.int .i64 ((a : Int) + 1))) (.returned (.int .i64 0))) := cst_site HS.out (((HW.out (.int .u8 (Im.top stk : Nat)) (.cells #[.int .i64 (f : Nat), .int .i64 ((a : Int) + 1)] 34) 1).2.1.trans hK2).kx HM.out) hM2 rfl (by omega)
  clear hM2 hK2
  go_wp2_with fail
  go_ret
  exact HP.out

set_option maxHeartbeats 6400000 in
set_option maxRecDepth 100000 in
theorem cstep_3o (s inp : ByteArray) (n mb bs bc cs base : Nat) (m : Im.St) (L : Nat → Value) (w : World) (hM : Mc s inp n mb bs bc cs base m false L w) (hI : Iv s inp n m) (hop : Im.bt s m.at_ = 3) (hT : ¬ m.stk.length < Im.tk 3) (hO : 16 < m.stk.length - Im.tk 3 + Im.psh 3) :
    Calls Tryz.prog 47 #[.pointer (some ⟨mb, 0, none⟩)] w fun e w' => CStep s inp n mb bs bc cs base m w w' e := by
  have HS : Hid (Im.stepP s inp m = (m, 2)) := by
    show Im.stepP s inp m = _
    unfold Im.stepP
    rw [hop]
    rw [if_neg (show ¬ m.stk.length < Im.tk 3 from hT), if_pos (show 16 < m.stk.length - Im.tk 3 + Im.psh 3 from hO)]
  have k0 := hM.bx.cell 0 (by omega)
  have k1 := hM.bx.cell 1 (by omega)
  have k3 := hM.bx.cell 3 (by omega)
  have k5 := hM.bx.cell 5 (by omega)
  rw [hM.lm.l0] at k0
  rw [hM.lm.l1] at k1
  rw [hM.lm.l3] at k3
  obtain ⟨a5, cap5, hv5, -, hcm5, -⟩ := owns_shape hM.rs
  rw [hv5] at k5
  have d0 := hM.mf.c0 m.at_ hI.hD
  have d1 := hM.mf.c1 m.at_ hI.hD
  have d2 := hM.mf.c2 m.at_ hI.hD
  have d3 := hM.mf.c3 m.at_ hI.hD
  rw [hop] at d0 d1 d2
  rw [show Im.tk 3 = 1 from rfl] at d0 hT hO
  rw [show Im.sz 3 = 1 from rfl] at d1
  have ha := hI.ha
  have hs := hI.hs
  have hl := hI.hl
  have hlt := hM.bx.lt
  have hltc : bc < w.heap.size := by have := hM.mf.hbc; have := hM.mf.hba; omega
  have HM : Hid (Mc s inp n mb bs bc cs base m false L w) := hM
  have HI : Hid (Iv s inp n m) := hI
  clear hM hI hv5
  obtain ⟨f, a, pos, stk, cel, cal, edg⟩ := m
  dsimp only at *
  generalize ar s a = g3 at *
  go_enter Tryz.func47, Tryz.ntmps47
  go_wp2_with fail
  go_region
  go_wp2_with fail
  go_quiet (fail)
  go_wp2_with fail
  refine (cbehind_any s inp n mb bs bc cs base ⟨f, a, pos, stk, cel, cal, edg⟩ false L f a _ ((HM.out.alloc _).drewN _) HI.out.hD ha hs).mono ?_
  rintro e w1 ⟨rfl, hb1⟩
  rw [hop, show Im.sz 3 = 1 from rfl]
  have hnow : w1.heap[w.heap.size]? = some (.cells #[.int .i64 1, .int .i64 1, .int .u8 3, .int .u8 (g3 : Nat)] 162 (0, 0)) := (hb1.block w.heap.size (by simp)).trans (heap_new w _)
  have n2 : w1.cell? ⟨w.heap.size, 2, none⟩ = some (.int .u8 3) := cell_of_heap hnow rfl
  have n3 : w1.cell? ⟨w.heap.size, 3, none⟩ = some (.int .u8 (g3 : Nat)) := cell_of_heap hnow rfl
  have m3 : w1.frozen? ⟨w.heap.size, 3, none⟩ = false := free_of_heap hnow
  have HN : Hid (w1.heap[w.heap.size]? = some (.cells #[.int .i64 1, .int .i64 1, .int .u8 3, .int .u8 (g3 : Nat)] 162 (0, 0))) := hnow
  have HK1 : Hid (Kp mb w L w1 L) := (((Kp.refl mb w L).alloc _).drewN _).below hb1
  have HM1 : Hid (Mc s inp n mb bs bc cs base ⟨f, a, pos, stk, cel, cal, edg⟩ false L w1) := (((HM.out.alloc _).drewN _).below hb1).1
  have hw1 : w.heap.size < w1.heap.size := by have := hb1.size; simp at this; omega
  clear hb1 hnow k0 k1 k3 k5 d0 d1 d2 d3
  obtain ⟨g, cap, hv, hgb, hnc, hcm, hgl, hcells⟩ := owns_some HM1.out.rs (by show 0 < stk.length; omega)
  have k5 := HM1.out.bx.cell 5 (by omega)
  rw [hv] at k5
  have ct := hcells (stk.length - 1) _ (byts_get stk (stk.length - 1) (by omega))
  rw [show stk[stk.length - 1]?.getD 0 = Im.top stk from rfl] at ct
  have hlt1 := HM1.out.bx.lt
  have hb1 := HM.out.mf.hba
  obtain ⟨q, HQ⟩ : ∃ q, Hid (stk.length = q + 1) := ⟨stk.length - 1, by show _ = _; omega⟩
  have hq16 : q ≤ 16 := by have := HQ.out; omega
  dsimp only at k5 hnc
  rw [HQ.out] at k5 ct hnc
  rw [Nat.add_sub_cancel] at ct
  unfold maxLen at hcm
  have hgne : g ≠ w.heap.size := by
    intro e
    have := row_ne HM.out.rs (Nat.le_refl _)
    rw [hv, e] at this
    exact this rfl
  clear hcells hv
  have HW : Hid (∀ v o q, Mc s inp n mb bs bc cs base ⟨f, a, pos, stk, cel, cal, edg⟩ false L (((w1.setCell ⟨w.heap.size, 3, none⟩ v).alloc o).drewN q) ∧ Kp mb w L (((w1.setCell ⟨w.heap.size, 3, none⟩ v).alloc o).drewN q) L ∧ (((w1.setCell ⟨w.heap.size, 3, none⟩ v).alloc o).drewN q).heap[w1.heap.size]? = some o) := fun v o q =>
    ⟨((HM1.out.out w.heap.size 3 v hb1 (row_ne HM.out.rs (Nat.le_refl _)) (row_ne HM.out.rc (Nat.le_refl _))).1.alloc o).drewN q, ((HK1.out.out w.heap.size 3 v (Nat.le_refl _)).alloc o).drewN q, by have := heap_new (w1.setCell ⟨w.heap.size, 3, none⟩ v) o; simpa using this⟩
  have hneq : w1.heap.size ≠ w.heap.size := by omega
  go_wp2_with fail
  go_region
  go_wp2_with fail
  refine (cpush_full s inp n mb bs bc cs base ⟨f, a, pos, stk, cel, cal, edg⟩ false L (Im.top stk) _ (HW.out _ _ 1).1 (by show stk.length = 16; simp [Im.psh] at hO; omega)).mono ?_
  rintro e w3 ⟨rfl, rfl⟩
  have HP : Hid (∀ v o, CStep s inp n mb bs bc cs base ⟨f, a, pos, stk, cel, cal, edg⟩ w (((w1.setCell ⟨w.heap.size, 3, none⟩ v).alloc o).drewN 1) (.returned (.int .i64 2))) := fun v o => cst_fault HS.out (by decide) (by decide) ((HW.out v o 1).2.1.kx HM.out) (HW.out v o 1).1 rfl rfl rfl rfl
  go_wp2_with fail
  go_ret
  exact HP.out _ _

end Go.Proofs.YtbmaiioecnmopaaGreatDoor

/-
  THE PROGRAM's SIDE (package triage): step: END. By the verifier of the loop 'triage'.
-/
namespace Go.Proofs.YtbmaiioecnmopaaGreatDoor
open Go.RowKit

theorem row_kept {s inp : ByteArray} {n mb bs bc cs base : Nat} {m : Im.St} {en : Bool} {w w1 w2 : World} {L L2 : Nat → Value} {b : Nat} (hM : Mc s inp n mb bs bc cs base m en L w) (hb : w.heap.size ≤ b) (hb1 : b < w1.heap.size) (hK : Kp mb w1 L w2 L2) : (L2 5).ownBlock ≠ some b ∧ (L2 6).ownBlock ≠ some b :=
  ⟨fun e => by rcases hK.r5 b e with x | x; exact row_ne hM.rs hb x; omega, fun e => by rcases hK.r6 b e with x | x; exact row_ne hM.rc hb x; omega⟩

set_option maxHeartbeats 6400000 in
set_option maxRecDepth 100000 in
theorem cstep_0a (s inp : ByteArray) (n mb bs bc cs base : Nat) (m : Im.St) (L : Nat → Value) (w : World) (hM : Mc s inp n mb bs bc cs base m false L w) (hI : Iv s inp n m) (hop : Im.bt s m.at_ = 0) (hT : ¬ m.stk.length < Im.tk 0) (hO : ¬ 16 < m.stk.length - Im.tk 0 + Im.psh 0) (hx : m.cal.length = 0) :
    Calls Tryz.prog 47 #[.pointer (some ⟨mb, 0, none⟩)] w fun e w' => CStep s inp n mb bs bc cs base m w w' e := by
  have HS : Hid (Im.stepP s inp m = (m, 10)) := by
    show Im.stepP s inp m = _
    unfold Im.stepP
    rw [hop]
    rw [if_neg (show ¬ m.stk.length < Im.tk 0 from hT), if_neg (show ¬ 16 < m.stk.length - Im.tk 0 + Im.psh 0 from hO)]
    simp [hx]
  have k0 := hM.bx.cell 0 (by omega)
  have k1 := hM.bx.cell 1 (by omega)
  have k3 := hM.bx.cell 3 (by omega)
  have k5 := hM.bx.cell 5 (by omega)
  rw [hM.lm.l0] at k0
  rw [hM.lm.l1] at k1
  rw [hM.lm.l3] at k3
  obtain ⟨a5, cap5, hv5, -, hcm5, -⟩ := owns_shape hM.rs
  rw [hv5] at k5
  have d0 := hM.mf.c0 m.at_ hI.hD
  have d1 := hM.mf.c1 m.at_ hI.hD
  have d2 := hM.mf.c2 m.at_ hI.hD
  have d3 := hM.mf.c3 m.at_ hI.hD
  rw [hop] at d0 d1 d2
  rw [show Im.tk 0 = 0 from rfl] at d0 hT hO
  rw [show Im.sz 0 = 1 from rfl] at d1
  have ha := hI.ha
  have hs := hI.hs
  have hl := hI.hl
  have hlt := hM.bx.lt
  have hltc : bc < w.heap.size := by have := hM.mf.hbc; have := hM.mf.hba; omega
  have HM : Hid (Mc s inp n mb bs bc cs base m false L w) := hM
  have HI : Hid (Iv s inp n m) := hI
  clear hM hI hv5
  obtain ⟨f, a, pos, stk, cel, cal, edg⟩ := m
  dsimp only at *
  generalize ar s a = g3 at *
  go_enter Tryz.func47, Tryz.ntmps47
  go_wp2_with fail
  go_region
  go_wp2_with fail
  go_quiet (fail)
  go_wp2_with fail
  refine (cbehind_any s inp n mb bs bc cs base ⟨f, a, pos, stk, cel, cal, edg⟩ false L f a _ ((HM.out.alloc _).drewN _) HI.out.hD ha hs).mono ?_
  rintro e w1 ⟨rfl, hb1⟩
  rw [hop, show Im.sz 0 = 1 from rfl]
  have hnow : w1.heap[w.heap.size]? = some (.cells #[.int .i64 0, .int .i64 1, .int .u8 0, .int .u8 (g3 : Nat)] 162 (0, 0)) := (hb1.block w.heap.size (by simp)).trans (heap_new w _)
  have n2 : w1.cell? ⟨w.heap.size, 2, none⟩ = some (.int .u8 0) := cell_of_heap hnow rfl
  have n3 : w1.cell? ⟨w.heap.size, 3, none⟩ = some (.int .u8 (g3 : Nat)) := cell_of_heap hnow rfl
  have m3 : w1.frozen? ⟨w.heap.size, 3, none⟩ = false := free_of_heap hnow
  have HN : Hid (w1.heap[w.heap.size]? = some (.cells #[.int .i64 0, .int .i64 1, .int .u8 0, .int .u8 (g3 : Nat)] 162 (0, 0))) := hnow
  have HK1 : Hid (Kp mb w L w1 L) := (((Kp.refl mb w L).alloc _).drewN _).below hb1
  have HM1 : Hid (Mc s inp n mb bs bc cs base ⟨f, a, pos, stk, cel, cal, edg⟩ false L w1) := (((HM.out.alloc _).drewN _).below hb1).1
  have hw1 : w.heap.size < w1.heap.size := by have := hb1.size; simp at this; omega
  clear hb1 hnow k0 k1 k3 k5 d0 d1 d2 d3
  go_wp2_with fail
  refine (cback_none s inp n mb bs bc cs base ⟨f, a, pos, stk, cel, cal, edg⟩ false L _ (HM1.out.alloc _) hx).mono ?_
  rintro e w2 ⟨rfl, L2, hM2, hK2⟩
  have hnx : w2.heap[w1.heap.size]? = some (.cells #[.int .i64 (f : Nat), .int .i64 ((a : Int) + 1)] 34 (0, 0)) := loc_kept HM1.out (Nat.le_refl _) (heap_new w1 _) hK2
  have y0 := cell_of_heap (o := 0) hnx rfl
  have y1 := cell_of_heap (o := 1) hnx rfl
  have x0 := free_of_heap (o := 0) hnx
  have x1 := free_of_heap (o := 1) hnx
  obtain ⟨hr5, hr6⟩ := row_kept (w1 := w1.alloc (.cells #[.int .i64 (f : Nat), .int .i64 ((a : Int) + 1)] 34)) HM1.out (Nat.le_refl _) (by simp) hK2
  have hbw1 : base ≤ w1.heap.size := HM1.out.mf.hba
  have hmb1 : mb ≠ w1.heap.size := by have := HM1.out.bx.lt; omega
  have k0 := hM2.bx.cell 0 (by omega)
  have k1 := hM2.bx.cell 1 (by omega)
  have z0 := hM2.bx.frz 0
  have z1 := hM2.bx.frz 1
  clear hnx
  have HP : Hid (∀ u v, CStep s inp n mb bs bc cs base ⟨f, a, pos, stk, cel, cal, edg⟩ w ((((w2.setCell ⟨w1.heap.size, 0, none⟩ u).setCell ⟨w1.heap.size, 1, none⟩ v).setCell ⟨mb, 0, none⟩ (.int .i64 (f : Nat))).setCell ⟨mb, 1, none⟩ (.int .i64 (a : Nat))) (.returned (.int .i64 0))) := fun u v =>
    cst_done HS.out (((((HK1.out.alloc _).trans hK2).kx HM.out).trans (hM2.out w1.heap.size 0 u hbw1 hr5 hr6).2).trans ((hM2.out w1.heap.size 0 u hbw1 hr5 hr6).1.out w1.heap.size 1 v hbw1 hr5 hr6).2) ((hM2.out w1.heap.size 0 u hbw1 hr5 hr6).1.out w1.heap.size 1 v hbw1 hr5 hr6).1
  clear hM2 hK2 hr5 hr6
  go_wp2_with fail
  go_ret
  exact HP.out _ _

set_option maxHeartbeats 6400000 in
set_option maxRecDepth 100000 in
theorem cstep_0b (s inp : ByteArray) (n mb bs bc cs base : Nat) (m : Im.St) (L : Nat → Value) (w : World) (hM : Mc s inp n mb bs bc cs base m false L w) (hI : Iv s inp n m) (hop : Im.bt s m.at_ = 0) (hT : ¬ m.stk.length < Im.tk 0) (hO : ¬ 16 < m.stk.length - Im.tk 0 + Im.psh 0) (hx : 0 < m.cal.length) :
    Calls Tryz.prog 47 #[.pointer (some ⟨mb, 0, none⟩)] w fun e w' => CStep s inp n mb bs bc cs base m w w' e := by
  have HS : Hid (Im.stepP s inp m = ({ m with fn := (m.cal[m.cal.length - 1]?.getD (0, 0)).1, at_ := (m.cal[m.cal.length - 1]?.getD (0, 0)).2 + 2, cal := m.cal.take (m.cal.length - 1) }, 0)) := by
    show Im.stepP s inp m = _
    unfold Im.stepP
    rw [hop]
    rw [if_neg (show ¬ m.stk.length < Im.tk 0 from hT), if_neg (show ¬ 16 < m.stk.length - Im.tk 0 + Im.psh 0 from hO)]
    simp [show m.cal.length ≠ 0 by omega]
  have k0 := hM.bx.cell 0 (by omega)
  have k1 := hM.bx.cell 1 (by omega)
  have k3 := hM.bx.cell 3 (by omega)
  have k5 := hM.bx.cell 5 (by omega)
  rw [hM.lm.l0] at k0
  rw [hM.lm.l1] at k1
  rw [hM.lm.l3] at k3
  obtain ⟨a5, cap5, hv5, -, hcm5, -⟩ := owns_shape hM.rs
  rw [hv5] at k5
  have d0 := hM.mf.c0 m.at_ hI.hD
  have d1 := hM.mf.c1 m.at_ hI.hD
  have d2 := hM.mf.c2 m.at_ hI.hD
  have d3 := hM.mf.c3 m.at_ hI.hD
  rw [hop] at d0 d1 d2
  rw [show Im.tk 0 = 0 from rfl] at d0 hT hO
  rw [show Im.sz 0 = 1 from rfl] at d1
  have ha := hI.ha
  have hs := hI.hs
  have hl := hI.hl
  have hlt := hM.bx.lt
  have hltc : bc < w.heap.size := by have := hM.mf.hbc; have := hM.mf.hba; omega
  have HM : Hid (Mc s inp n mb bs bc cs base m false L w) := hM
  have HI : Hid (Iv s inp n m) := hI
  clear hM hI hv5
  obtain ⟨f, a, pos, stk, cel, cal, edg⟩ := m
  dsimp only at *
  generalize ar s a = g3 at *
  go_enter Tryz.func47, Tryz.ntmps47
  go_wp2_with fail
  go_region
  go_wp2_with fail
  go_quiet (fail)
  go_wp2_with fail
  refine (cbehind_any s inp n mb bs bc cs base ⟨f, a, pos, stk, cel, cal, edg⟩ false L f a _ ((HM.out.alloc _).drewN _) HI.out.hD ha hs).mono ?_
  rintro e w1 ⟨rfl, hb1⟩
  rw [hop, show Im.sz 0 = 1 from rfl]
  have hnow : w1.heap[w.heap.size]? = some (.cells #[.int .i64 0, .int .i64 1, .int .u8 0, .int .u8 (g3 : Nat)] 162 (0, 0)) := (hb1.block w.heap.size (by simp)).trans (heap_new w _)
  have n2 : w1.cell? ⟨w.heap.size, 2, none⟩ = some (.int .u8 0) := cell_of_heap hnow rfl
  have n3 : w1.cell? ⟨w.heap.size, 3, none⟩ = some (.int .u8 (g3 : Nat)) := cell_of_heap hnow rfl
  have m3 : w1.frozen? ⟨w.heap.size, 3, none⟩ = false := free_of_heap hnow
  have HN : Hid (w1.heap[w.heap.size]? = some (.cells #[.int .i64 0, .int .i64 1, .int .u8 0, .int .u8 (g3 : Nat)] 162 (0, 0))) := hnow
  have HK1 : Hid (Kp mb w L w1 L) := (((Kp.refl mb w L).alloc _).drewN _).below hb1
  have HM1 : Hid (Mc s inp n mb bs bc cs base ⟨f, a, pos, stk, cel, cal, edg⟩ false L w1) := (((HM.out.alloc _).drewN _).below hb1).1
  have hw1 : w.heap.size < w1.heap.size := by have := hb1.size; simp at this; omega
  clear hb1 hnow k0 k1 k3 k5 d0 d1 d2 d3
  obtain ⟨pr, HPR⟩ : ∃ pr, Hid (cal[cal.length - 1]?.getD (0, 0) = pr) := ⟨_, rfl⟩
  have hmem : cal[cal.length - 1]?.getD (0, 0) ∈ cal := by rw [List.getElem?_eq_getElem (by omega)]; simp
  obtain ⟨q1, q2, q3⟩ := HI.out.hcv _ hmem
  have HQ2 : Hid (Im.sz (Im.bt s (cal[cal.length - 1]?.getD (0, 0)).2) = 2) := by show Im.sz _ = 2; rw [q3]; rfl
  clear hmem q3
  go_wp2_with fail
  refine (cback_some s inp n mb bs bc cs base ⟨f, a, pos, stk, cel, cal, edg⟩ false L _ (HM1.out.alloc _) hx HI.out.hcl hs q1 q2 HQ2.out).mono ?_
  rintro e w2 ⟨rfl, L2, hM2, hK2⟩
  dsimp only at hM2
  dsimp only
  rw [HPR.out]
  rw [HPR.out] at HS
  clear q1 q2 HQ2
  have hnx : w2.heap[w1.heap.size]? = some (.cells #[.int .i64 (f : Nat), .int .i64 ((a : Int) + 1)] 34 (0, 0)) := loc_kept HM1.out (Nat.le_refl _) (heap_new w1 _) hK2
  have y0 := cell_of_heap (o := 0) hnx rfl
  have y1 := cell_of_heap (o := 1) hnx rfl
  have x0 := free_of_heap (o := 0) hnx
  have x1 := free_of_heap (o := 1) hnx
  obtain ⟨hr5, hr6⟩ := row_kept (w1 := w1.alloc (.cells #[.int .i64 (f : Nat), .int .i64 ((a : Int) + 1)] 34)) HM1.out (Nat.le_refl _) (by simp) hK2
  have hbw1 : base ≤ w1.heap.size := HM1.out.mf.hba
  have hmb1 : mb ≠ w1.heap.size := by have := HM1.out.bx.lt; omega
  have k0 := hM2.bx.cell 0 (by omega)
  have k1 := hM2.bx.cell 1 (by omega)
  have z0 := hM2.bx.frz 0
  have z1 := hM2.bx.frz 1
  clear hnx
  have HP : Hid (∀ u v, CStep s inp n mb bs bc cs base ⟨f, a, pos, stk, cel, cal, edg⟩ w ((((w2.setCell ⟨w1.heap.size, 0, none⟩ u).setCell ⟨w1.heap.size, 1, none⟩ v).setCell ⟨mb, 0, none⟩ (.int .i64 (pr.1 : Nat))).setCell ⟨mb, 1, none⟩ (.int .i64 ((pr.2 : Int) + 2))) (.returned (.int .i64 0))) := fun u v =>
    cst_site HS.out (((((HK1.out.alloc _).trans hK2).kx HM.out).trans (hM2.out w1.heap.size 0 u hbw1 hr5 hr6).2).trans ((hM2.out w1.heap.size 0 u hbw1 hr5 hr6).1.out w1.heap.size 1 v hbw1 hr5 hr6).2) ((hM2.out w1.heap.size 0 u hbw1 hr5 hr6).1.out w1.heap.size 1 v hbw1 hr5 hr6).1 rfl (by omega)
  clear hM2 hK2 hr5 hr6
  go_wp2_with fail
  go_ret
  exact HP.out _ _

end Go.Proofs.YtbmaiioecnmopaaGreatDoor
