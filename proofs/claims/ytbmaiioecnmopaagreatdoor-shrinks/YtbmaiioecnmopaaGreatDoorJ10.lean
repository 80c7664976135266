/-
  RefT, RefU: THESE TEXTS, JOINED. By the verifier of the loop 'triage'.
-/
import Derived.Test.YtbmaiioecnmopaaGreatDoorJ07
/-
  THE DOCUMENT's SIDE (package triageref): goes, call. By the verifier of the loop 'triage'.
-/
namespace Go.Proofs.YtbmaiioecnmopaaGreatDoor
open Go.RowKit

theorem edge_int (s inp : ByteArray) (n bb bF cF base k e : Nat) (x : Int) (m : Im.St) (L : Nat → Value) (w : World) (hx : x = ((e : Nat) : Int)) (hM : Ms s inp n bb bF cF base m k L w) (he : e < 400) :
    Calls Tryz.prog 105 #[.pointer (some ⟨bb, 0, none⟩), .int .i64 x] w fun en w' => EdgePost s inp n bb bF cF base m k e w w' en := by
  subst hx
  exact edge_any s inp n bb bF cF base k e m L w hM he
theorem cast_add (t b : Nat) : ((t + b : Nat) : Int) = (t : Int) + (b : Int) := by omega

set_option maxHeartbeats 1600000 in
set_option maxRecDepth 100000 in
theorem goes_jmp (s inp : ByteArray) (n bb bF cF base k : Nat) (m : Im.St) (L : Nat → Value) (w : World) (hM : Ms s inp n bb bF cF base m k L w) (hs : s.size ≤ 200) (hf : m.fn < n) (ha : m.at_ + 1 < s.size) (hst : Im.st s m.fn ≤ 1000) :
    Calls Tryz.prog 91 #[.pointer (some ⟨bb, 0, none⟩), .int .u8 10] w fun e w' => GoPost s inp n bb bF cF base { m with at_ := Im.st s m.fn + Im.bt s (m.at_ + 1), edg := Im.up m.edg (2 * m.at_ + 1) } k w w' e := by
  have k0 := hM.k0
  have k1 := hM.k1
  have k4 := hM.k4
  have k5 := hM.k5
  have fc := hM.fc m.fn hf
  obtain ⟨f, a, pos, stk, cel, cal, edg⟩ := m
  dsimp only at *
  have hb := Im.bt_eq s (a + 1) ha
  have hb256 := Im.bt_lt s (a + 1)
  have HM : Hid (Ms s inp n bb bF cF base ⟨f, a, pos, stk, cel, cal, edg⟩ k L w) := hM
  clear hM
  generalize Im.bt s (a + 1) = b at *
  generalize Im.st s f = t at *
  go_enter Tryz.func91, Tryz.ntmps91
  go_wp2
  go_quiet (fail)
  go_wp2_with fail
  refine (edge_int s inp n bb bF cF base k (2 * a + 1) _ _ L _ (by omega) (HM.out.drewN _) (by omega)).mono ?_
  rintro e w1 ⟨rfl, ⟨L1, hM1⟩, hK1⟩
  have k5' := hM1.k5
  have z5' := hM1.bx.frz 5
  have HP : GoPost s inp n bb bF cF base ⟨f, t + b, pos, stk, cel, cal, Im.up edg (2 * a + 1)⟩ k w (w1.setCell ⟨bb, 5, none⟩ (.int .i64 (t + b : Nat))) (.returned (.tuple #[])) :=
    ⟨rfl, ⟨_, hM1.setAt (t + b)⟩, (((Kx.refl base bb w).drewN _).trans hK1).set _ _⟩
  rw [cast_add] at HP
  have HPH : Hid (GoPost s inp n bb bF cF base ⟨f, t + b, pos, stk, cel, cal, Im.up edg (2 * a + 1)⟩ k w (w1.setCell ⟨bb, 5, none⟩ (.int .i64 ((t : Int) + (b : Int)))) (.returned (.tuple #[]))) := HP
  clear hM1 hK1 k0 k1 k4 k5 fc HP
  go_wp2
  go_end0
  exact HPH.out

set_option maxHeartbeats 1600000 in
set_option maxRecDepth 100000 in
theorem goes_jz0 (s inp : ByteArray) (n bb bF cF base k : Nat) (m : Im.St) (L : Nat → Value) (w : World) (hM : Ms s inp n bb bF cF base m k L w) (hs : s.size ≤ 200) (hf : m.fn < n) (ha : m.at_ + 1 < s.size) (hst : Im.st s m.fn ≤ 1000) (hl : 0 < m.stk.length) (hl2 : m.stk.length ≤ 100) (hx : Im.top m.stk = 0) :
    Calls Tryz.prog 91 #[.pointer (some ⟨bb, 0, none⟩), .int .u8 11] w fun e w' => GoPost s inp n bb bF cF base { m with stk := m.stk.take (m.stk.length - 1), at_ := Im.st s m.fn + Im.bt s (m.at_ + 1), edg := Im.up m.edg (2 * m.at_ + 1) } k w w' e := by
  have k0 := hM.k0
  have k1 := hM.k1
  have k4 := hM.k4
  have k5 := hM.k5
  have fc := hM.fc m.fn hf
  obtain ⟨f, a, pos, stk, cel, cal, edg⟩ := m
  dsimp only at *
  have hb := Im.bt_eq s (a + 1) ha
  have hb256 := Im.bt_lt s (a + 1)
  have HM : Hid (Ms s inp n bb bF cF base ⟨f, a, pos, stk, cel, cal, edg⟩ k L w) := hM
  clear hM
  generalize Im.bt s (a + 1) = b at *
  generalize Im.st s f = t at *
  have hx0 : ((Im.top stk : Int) == 0) = true := by rw [hx]; rfl
  clear hx
  go_enter Tryz.func91, Tryz.ntmps91
  go_wp2
  go_quiet (fail)
  go_wp2_with fail
  refine (pop_any s inp n bb bF cF base k _ L _ (HM.out.drewN _) hl hl2).mono ?_
  rintro e w1 ⟨rfl, ⟨L1, hM1⟩, hK1⟩
  dsimp only at *
  have hK1' := ((Kx.refl base bb w).drewN _).trans hK1
  have k5a := hM1.k5
  have HM1 : Hid (Ms s inp n bb bF cF base ⟨f, a, pos, stk.take (stk.length - 1), cel, cal, edg⟩ k L1 w1) := hM1
  clear hM1 hK1 k0 k1 k4 k5 fc
  go_wp2_with fail
  refine (edge_int s inp n bb bF cF base k (2 * a + 1) _ _ L1 _ (by omega) HM1.out (by omega)).mono ?_
  rintro e w2 ⟨rfl, ⟨L2, hM2⟩, hK2⟩
  have k5' := hM2.k5
  have z5' := hM2.bx.frz 5
  have HP : GoPost s inp n bb bF cF base ⟨f, t + b, pos, stk.take (stk.length - 1), cel, cal, Im.up edg (2 * a + 1)⟩ k w (w2.setCell ⟨bb, 5, none⟩ (.int .i64 (t + b : Nat))) (.returned (.tuple #[])) :=
    ⟨rfl, ⟨_, hM2.setAt (t + b)⟩, (hK1'.trans hK2).set _ _⟩
  rw [cast_add] at HP
  have HPH : Hid (GoPost s inp n bb bF cF base ⟨f, t + b, pos, stk.take (stk.length - 1), cel, cal, Im.up edg (2 * a + 1)⟩ k w (w2.setCell ⟨bb, 5, none⟩ (.int .i64 ((t : Int) + (b : Int)))) (.returned (.tuple #[]))) := HP
  clear hM2 hK2 HP k5a
  go_wp2
  go_end0
  exact HPH.out

set_option maxHeartbeats 1600000 in
set_option maxRecDepth 100000 in
theorem goes_jz1 (s inp : ByteArray) (n bb bF cF base k : Nat) (m : Im.St) (L : Nat → Value) (w : World) (hM : Ms s inp n bb bF cF base m k L w) (hs : s.size ≤ 200) (hf : m.fn < n) (ha : m.at_ + 1 < s.size) (hst : Im.st s m.fn ≤ 1000) (hl : 0 < m.stk.length) (hl2 : m.stk.length ≤ 100) (hx : Im.top m.stk ≠ 0) :
    Calls Tryz.prog 91 #[.pointer (some ⟨bb, 0, none⟩), .int .u8 11] w fun e w' => GoPost s inp n bb bF cF base { m with stk := m.stk.take (m.stk.length - 1), at_ := m.at_ + 2, edg := Im.up m.edg (2 * m.at_) } k w w' e := by
  have k0 := hM.k0
  have k1 := hM.k1
  have k4 := hM.k4
  have k5 := hM.k5
  have fc := hM.fc m.fn hf
  obtain ⟨f, a, pos, stk, cel, cal, edg⟩ := m
  dsimp only at *
  have hb := Im.bt_eq s (a + 1) ha
  have hb256 := Im.bt_lt s (a + 1)
  have HM : Hid (Ms s inp n bb bF cF base ⟨f, a, pos, stk, cel, cal, edg⟩ k L w) := hM
  clear hM
  generalize Im.bt s (a + 1) = b at *
  generalize Im.st s f = t at *
  have hx0 : ((Im.top stk : Int) == 0) = false := by rw [beq_eq_false_iff_ne]; omega
  clear hx
  go_enter Tryz.func91, Tryz.ntmps91
  go_wp2
  go_quiet (fail)
  go_wp2_with fail
  refine (pop_any s inp n bb bF cF base k _ L _ (HM.out.drewN _) hl hl2).mono ?_
  rintro e w1 ⟨rfl, ⟨L1, hM1⟩, hK1⟩
  dsimp only at *
  have hK1' := ((Kx.refl base bb w).drewN _).trans hK1
  have k5a := hM1.k5
  have HM1 : Hid (Ms s inp n bb bF cF base ⟨f, a, pos, stk.take (stk.length - 1), cel, cal, edg⟩ k L1 w1) := hM1
  clear hM1 hK1 k0 k1 k4 k5 fc
  go_wp2_with fail
  refine (edge_int s inp n bb bF cF base k (2 * a) _ _ L1 _ (by omega) HM1.out (by omega)).mono ?_
  rintro e w2 ⟨rfl, ⟨L2, hM2⟩, hK2⟩
  have k5' := hM2.k5
  have z5' := hM2.bx.frz 5
  have HP : GoPost s inp n bb bF cF base ⟨f, a + 2, pos, stk.take (stk.length - 1), cel, cal, Im.up edg (2 * a)⟩ k w (w2.setCell ⟨bb, 5, none⟩ (.int .i64 (a + 2 : Nat))) (.returned (.tuple #[])) :=
    ⟨rfl, ⟨_, hM2.setAt (a + 2)⟩, (hK1'.trans hK2).set _ _⟩
  rw [cast_add] at HP
  have HPH : Hid (GoPost s inp n bb bF cF base ⟨f, a + 2, pos, stk.take (stk.length - 1), cel, cal, Im.up edg (2 * a)⟩ k w (w2.setCell ⟨bb, 5, none⟩ (.int .i64 ((a : Int) + ((2 : Nat) : Int)))) (.returned (.tuple #[]))) := HP
  clear hM2 hK2 HP k5a
  go_wp2
  go_end0
  exact HPH.out

end Go.Proofs.YtbmaiioecnmopaaGreatDoor

/-
  THE DOCUMENT's SIDE (package triageref): call, input, cells. By the verifier of the loop 'triage'.
-/
namespace Go.Proofs.YtbmaiioecnmopaaGreatDoor
open Go.RowKit

set_option maxHeartbeats 1600000 in
theorem call_deep (s inp : ByteArray) (n bb bF cF base k q : Nat) (m : Im.St) (L : Nat → Value) (w : World) (hM : Ms s inp n bb bF cF base m k L w) (hc : 8 ≤ m.cal.length) (hc2 : m.cal.length ≤ 100) :
    Calls Tryz.prog 92 #[.pointer (some ⟨bb, 0, none⟩), .int .i64 q] w fun e w' => FaultPost bb base 6 k m w w' e := by
  obtain ⟨g, cap, hv, hgb, hnc, hcm, hgl, -⟩ := owns_some hM.rc (by omega)
  have c23 := hM.bx.cell 23 (by omega)
  rw [hv] at c23
  have HM : Hid (Ms s inp n bb bF cF base m k L w) := hM
  clear hM hv
  go_enter Tryz.func92, Tryz.ntmps92
  go_wp2_with fail
  refine (fault_any s inp n bb bF cF base k 6 m L _ HM.out hc2).mono ?_
  rintro e w1 ⟨rfl, h1, h2⟩
  have HP : Hid (FaultPost bb base 6 k m w w1 (.returned (.tuple #[]))) := ⟨rfl, h1, h2⟩
  clear h1 h2
  go_wp2
  first
    | (go_end0; exact HP.out)
    | exact bodyPost_ret (v := .tuple #[]) (by simp [results, Tryz.results92, go_sem]) rfl HP.out

set_option maxHeartbeats 6400000 in
set_option maxRecDepth 100000 in
theorem call_go (s inp : ByteArray) (n bb bF cF base k q : Nat) (m : Im.St) (L : Nat → Value) (w : World) (hM : Ms s inp n bb bF cF base m k L w) (hc : m.cal.length < 8) (ha : m.at_ < 200) (hq : q < n) :
    Calls Tryz.prog 92 #[.pointer (some ⟨bb, 0, none⟩), .int .i64 q] w fun e w' => GoPost s inp n bb bF cF base { m with cal := m.cal ++ [(m.fn, m.at_)], fn := q, at_ := Im.st s q, edg := Im.up m.edg (2 * m.at_ + 1) } k w w' e := by
  obtain ⟨i0, hi, hz0, hz1, hz2⟩ := info_parts Tryz.infoSite
  obtain ⟨ao, cap, hv, hnc, hcm, -⟩ := owns_shape hM.rc
  have c23 := hM.bx.cell 23 (by omega)
  rw [hv] at c23
  have k5 := hM.k5
  obtain ⟨f, a, pos, stk, cel, cal, edg⟩ := m
  dsimp only at *
  have HM : Hid (Ms s inp n bb bF cF base ⟨f, a, pos, stk, cel, cal, edg⟩ k L w) := hM
  clear hM hv
  go_enter Tryz.func92, Tryz.ntmps92
  go_wp2_with fail
  refine (edge_int s inp n bb bF cF base k (2 * a + 1) _ _ L _ (by omega) HM.out (by omega)).mono ?_
  rintro e w1 ⟨rfl, ⟨L1, hM1⟩, hK1⟩
  dsimp only at *
  obtain ⟨ao1, cap1, hv1, hnc1, hcm1, -⟩ := owns_shape hM1.rc
  have d23 := hM1.bx.cell 23 (by omega)
  have z23 := hM1.bx.frz 23
  have d4 := hM1.k4
  have d5 := hM1.k5
  have hbl := hM1.bx.lt
  have hbb := hM1.hbb
  have hba := hM1.hba
  have hrc := hM1.rc
  have hrow : some bb ≠ (L1 23).ownBlock := fun e => by have := (hM1.rc.lt bb e.symm).1; omega
  have HM1 : Hid (Ms s inp n bb bF cF base ⟨f, a, pos, stk, cel, cal, Im.up edg (2 * a + 1)⟩ k L1 w1) := hM1
  have HV1 : Hid (L1 23 = .slice ao1 cal.length cap1) := hv1
  have HK1 : Hid (Kx base bb w w1) := hK1
  rw [hv1] at d23 hrc hrow
  clear hM1 hv1 hK1 c23 k5 HM
  dsimp only at *
  unfold maxLen at hcm1
  go_wp2
  go_region_law (refine step_append_fresh rfl (.tmp 24) (.tmp 34) 49 rfl base 86 i0 (.agg #[.int .i64 0, .int .i64 0]) 2 16 Tryz.undSites hi hz0 hz1 hz2 rfl (by decide) (.slice ao1 cal.length cap1) cal.length (prs cal) rfl (by exact hrc.alloc _) ⟨w1.heap.size, 0, none⟩ 1 1 [.int .i64 (f : Nat), .int .i64 (a : Nat)] rfl rfl (by exact news2 _ _ _ _) (by exact ones2 _ _ _) (by unfold maxLen; omega) (by omega) (by exact Nat.le_trans hba (by simp)) ?_; intro v' w2 hown' hgrow hfr; have c23' : w2.cell? ⟨bb, 23, none⟩ = some (.slice ao1 cal.length cap1) := (hgrow.cell ((World.cell?_alloc_lt _ _ ⟨bb, 23, none⟩ hbl).trans d23) hrow); have z23' : w2.frozen? ⟨bb, 23, none⟩ = false := (World.frozen?_of_block (a := ⟨bb, 23, none⟩) (hgrow.block bb (Nat.lt_of_lt_of_le hbl (by simp)) hrow)).trans ((World.frozen?_alloc_old _ _ ⟨bb, 23, none⟩ (Nat.ne_of_lt hbl)).trans z23); obtain ⟨g', cap', hv', -⟩ := owns_some hown' (by omega); subst hv')
  all_goals
    have hA : Ms s inp n bb bF cF base ⟨f, a, pos, stk, cel, cal, Im.up edg (2 * a + 1)⟩ k L1 ((w1.alloc (.cells #[.int .i64 (f : Nat), .int .i64 (a : Nat)] 86)).drewN 1) := (HM1.out.alloc _).drewN 1
    have hN := hA.grownC (w1 := w2) (by rw [HV1.out]; exact hgrow) (cal ++ [(f, a)]) (.slice (some ⟨g', 0, none⟩) (cal.length + 1) cap') (by rw [prs_append]; simpa [prs] using hown') (by rw [HV1.out]; exact hfr)
    have hK2 := (((HK1.out).alloc hba (.cells #[.int .i64 (f : Nat), .int .i64 (a : Nat)] 86)).drewN 1).trans hN.2
    have hM2 := hN.1
    have d4' := hM2.k4
    have d5' := hM2.k5
    have d1' := hM2.k1
    have fc' := hM2.fc q hq
    have z4' := hM2.bx.frz 4
    have z5' := hM2.bx.frz 5
    have HP : Hid (GoPost s inp n bb bF cF base ⟨q, Im.st s q, pos, stk, cel, cal ++ [(f, a)], Im.up edg (2 * a + 1)⟩ k w (((w2.setCell ⟨bb, 23, none⟩ (.slice (some ⟨g', 0, none⟩) (cal.length + 1) cap')).setCell ⟨bb, 4, none⟩ (.int .i64 (q : Nat))).setCell ⟨bb, 5, none⟩ (.int .i64 (Im.st s q : Nat))) (.returned (.tuple #[]))) :=
      ⟨rfl, ⟨_, (hM2.setFn q).setAt (Im.st s q)⟩, (hK2.set _ _).set _ _⟩
    have hne := hM2.hne
    clear hown' hgrow hfr c23' z23' hA hN hK2 hM2 d23 z23 hrc d4 d5
    go_wp2
    go_end0
    exact HP.out
end Go.Proofs.YtbmaiioecnmopaaGreatDoor
