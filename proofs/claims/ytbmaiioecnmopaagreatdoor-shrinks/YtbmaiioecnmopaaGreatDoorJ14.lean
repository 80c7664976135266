/-
  THE DOCUMENT's SIDE (package triageref): Step, op by op (laid by wip/steps.py). By the verifier of the loop 'triage'.
-/
import Derived.Test.YtbmaiioecnmopaaGreatDoorJ12
namespace Go.Proofs.YtbmaiioecnmopaaGreatDoor
open Go.RowKit

set_option maxHeartbeats 6400000 in
set_option maxRecDepth 100000 in
theorem step_4 (s inp : ByteArray) (n bb bF cF base k : Nat) (m : Im.St) (L : Nat → Value) (w : World) (hM : Ms s inp n bb bF cF base m k L w) (hI : Inv s inp n m) (hk : k ≤ 100000) (hop : Im.bt s m.at_ = 4) (hT : ¬ m.stk.length < 2) (hO : ¬ 16 < m.stk.length - 2 + 1)  :
    Calls Tryz.prog 57 #[.pointer (some ⟨bb, 0, none⟩)] w fun e w' => StepPost s inp n bb bF cF base m k w w' e := by
  have HS : Hid (Im.stepP s inp m = ({ m with stk := m.stk.take (m.stk.length - 2) ++ [Im.ari 4 (Im.snd m.stk) (Im.top m.stk)], at_ := m.at_ + 1 }, 0)) := by
    show Im.stepP s inp m = _
    unfold Im.stepP
    rw [hop]
    rw [if_neg (show ¬ m.stk.length < Im.tk 4 from hT), if_neg (show ¬ 16 < m.stk.length - Im.tk 4 + Im.psh 4 from hO)]
    simp
  have k0 := hM.k0
  have k5 := hM.k5
  have k30 := hM.k30
  have z30 := hM.bx.frz 30
  have ha := hI.ha
  have hs := hI.hs
  have hl := hI.hl
  have hcl := hI.hcl
  have hsz := hI.hz
  rw [hop] at hsz
  have htl := top_lt m.stk (by omega) hI.hv
  have hsl := snd_lt m.stk (by omega) hI.hv
  obtain ⟨ao, cap, hv6, hnc, hcm, -⟩ := owns_shape hM.rs
  have c6 := hM.bx.cell 6 (by omega)
  rw [hv6] at c6
  have hb := (Im.bt_eq s m.at_ ha).trans hop
  have HM1 : Hid (∀ q, Ms s inp n bb bF cF base m (k + 1) (updV L 30 (.int .i64 (k + 1 : Nat))) ((w.drewN q).setCell ⟨bb, 30, none⟩ (.int .i64 ((k : Int) + 1)))) := fun q => by
    have := (hM.drewN q).setSteps (k + 1)
    rw [cast_add] at this
    exact this
  have HK1 : Hid (∀ q, Kx base bb w ((w.drewN q).setCell ⟨bb, 30, none⟩ (.int .i64 ((k : Int) + 1)))) := fun q => ((Kx.refl base bb w).drewN q).set _ _
  clear hM hI hv6 hop
  obtain ⟨f, a, pos, stk, cel, cal, edg⟩ := m
  dsimp only at *
  have ht : Im.tk 4 = 2 := rfl
  have hp : Im.psh 4 = 1 := rfl
  have hz : Im.sz 4 = 1 := rfl
  rw [hz] at hsz
  go_enter Tryz.func57, Tryz.ntmps57
  go_wp2
  go_quiet (fail)
  go_wp2
  go_quiet ((go_at_call 87; exact quiet_at ⟨_, rfl⟩ (takes_any 4 _ (by decide))))
  go_wp2
  go_quiet ((first | (go_at_call 87; exact quiet_at ⟨_, rfl⟩ (takes_any 4 _ (by decide))) | (go_at_call 89; exact quiet_at ⟨_, rfl⟩ (pushes_any 4 _ (by decide)))))
  go_wp2_with fail
  refine (pop_any s inp n bb bF cF base (k + 1) _ _ _ ((HM1.out _).drewN _) (by show 0 < stk.length; omega) (by show stk.length ≤ 100; omega)).mono ?_
  rintro e w0 ⟨rfl, ⟨L0, hM0⟩, h0⟩
  have hK0 := ((HK1.out _).drewN _).trans h0
  dsimp only at hM0 ⊢
  have hlen := len_take1 stk
  have HM0 : Hid (Ms s inp n bb bF cF base ⟨f, a, pos, stk.take (stk.length - 1), cel, cal, edg⟩ (k + 1) L0 w0) := hM0
  clear h0 hM0
  go_wp2_with fail
  refine (pop_any s inp n bb bF cF base (k + 1) _ _ _ HM0.out (by show 0 < (stk.take (stk.length - 1)).length; omega) (by show (stk.take (stk.length - 1)).length ≤ 100; omega)).mono ?_
  rintro e w2 ⟨rfl, ⟨L2, hM2⟩, h2⟩
  have hK2 := hK0.trans h2
  dsimp only at hM2 ⊢
  rw [take_take1 stk (by omega)] at hM2
  rw [top_take stk (by omega)]
  have HM2 : Hid (Ms s inp n bb bF cF base ⟨f, a, pos, stk.take (stk.length - 2), cel, cal, edg⟩ (k + 1) L2 w2) := hM2
  have hlen2 : (stk.take (stk.length - 2)).length ≤ 100 := by have := List.length_take_le (stk.length - 2) stk; omega
  clear h2 hM2 hK0 hlen HM0
  go_wp2_with fail
  refine (sum_any 4 (Im.snd stk) (Im.top stk) _ hsl htl (by simp)).mono ?_
  rintro e w3 ⟨⟨z, rfl, hz3⟩, rfl⟩
  have HZ : Hid (z % 256 = (Im.ari 4 (Im.snd stk) (Im.top stk) : Nat)) := hz3
  clear hz3
  go_wp2_with fail
  refine (push_any s inp n bb bF cF base (k + 1) _ _ z _ _ HM2.out (by exact hlen2) HZ.out).mono ?_
  rintro e w1 ⟨rfl, ⟨L1, hM1⟩, h1⟩
  have hK1 := hK2.trans h1
  dsimp only at hM1
  clear h1 hK2
  have k32' := hM1.k32
  have k5' := hM1.k5
  have z5' := hM1.bx.frz 5
  dsimp only at k5'
  have HP : Hid (∀ q, StepPost s inp n bb bF cF base ⟨f, a, pos, stk, cel, cal, edg⟩ k w ((w1.setCell ⟨bb, 5, none⟩ (.int .i64 ((a : Int) + ((1 : Nat) : Int)))).drewN q) (.returned (.tuple #[]))) := fun q => by
    have h := hM1.setAt (a + 1)
    rw [cast_add] at h
    exact step_go HS.out hK1 ⟨rfl, ⟨_, h.drewN q⟩, ((Kx.refl base bb w1).set _ _).drewN q⟩
  clear hM1
  go_wp2
  go_region_with (go_at_call 98; refine (size_any 4 _ (by decide) (by decide)).mono ?_; rintro e w' ⟨rfl, rfl⟩)
  all_goals
    go_wp2
    go_end0
    first
      | (rw [wrap1 a (by omega)]; exact HP.out 1)
      | exact HP.out 1

set_option maxHeartbeats 6400000 in
set_option maxRecDepth 100000 in
theorem step_5 (s inp : ByteArray) (n bb bF cF base k : Nat) (m : Im.St) (L : Nat → Value) (w : World) (hM : Ms s inp n bb bF cF base m k L w) (hI : Inv s inp n m) (hk : k ≤ 100000) (hop : Im.bt s m.at_ = 5) (hT : ¬ m.stk.length < 2) (hO : ¬ 16 < m.stk.length - 2 + 1)  :
    Calls Tryz.prog 57 #[.pointer (some ⟨bb, 0, none⟩)] w fun e w' => StepPost s inp n bb bF cF base m k w w' e := by
  have HS : Hid (Im.stepP s inp m = ({ m with stk := m.stk.take (m.stk.length - 2) ++ [Im.ari 5 (Im.snd m.stk) (Im.top m.stk)], at_ := m.at_ + 1 }, 0)) := by
    show Im.stepP s inp m = _
    unfold Im.stepP
    rw [hop]
    rw [if_neg (show ¬ m.stk.length < Im.tk 5 from hT), if_neg (show ¬ 16 < m.stk.length - Im.tk 5 + Im.psh 5 from hO)]
    simp
  have k0 := hM.k0
  have k5 := hM.k5
  have k30 := hM.k30
  have z30 := hM.bx.frz 30
  have ha := hI.ha
  have hs := hI.hs
  have hl := hI.hl
  have hcl := hI.hcl
  have hsz := hI.hz
  rw [hop] at hsz
  have htl := top_lt m.stk (by omega) hI.hv
  have hsl := snd_lt m.stk (by omega) hI.hv
  obtain ⟨ao, cap, hv6, hnc, hcm, -⟩ := owns_shape hM.rs
  have c6 := hM.bx.cell 6 (by omega)
  rw [hv6] at c6
  have hb := (Im.bt_eq s m.at_ ha).trans hop
  have HM1 : Hid (∀ q, Ms s inp n bb bF cF base m (k + 1) (updV L 30 (.int .i64 (k + 1 : Nat))) ((w.drewN q).setCell ⟨bb, 30, none⟩ (.int .i64 ((k : Int) + 1)))) := fun q => by
    have := (hM.drewN q).setSteps (k + 1)
    rw [cast_add] at this
    exact this
  have HK1 : Hid (∀ q, Kx base bb w ((w.drewN q).setCell ⟨bb, 30, none⟩ (.int .i64 ((k : Int) + 1)))) := fun q => ((Kx.refl base bb w).drewN q).set _ _
  clear hM hI hv6 hop
  obtain ⟨f, a, pos, stk, cel, cal, edg⟩ := m
  dsimp only at *
  have ht : Im.tk 5 = 2 := rfl
  have hp : Im.psh 5 = 1 := rfl
  have hz : Im.sz 5 = 1 := rfl
  rw [hz] at hsz
  go_enter Tryz.func57, Tryz.ntmps57
  go_wp2
  go_quiet (fail)
  go_wp2
  go_quiet ((go_at_call 87; exact quiet_at ⟨_, rfl⟩ (takes_any 5 _ (by decide))))
  go_wp2
  go_quiet ((first | (go_at_call 87; exact quiet_at ⟨_, rfl⟩ (takes_any 5 _ (by decide))) | (go_at_call 89; exact quiet_at ⟨_, rfl⟩ (pushes_any 5 _ (by decide)))))
  go_wp2_with fail
  refine (pop_any s inp n bb bF cF base (k + 1) _ _ _ ((HM1.out _).drewN _) (by show 0 < stk.length; omega) (by show stk.length ≤ 100; omega)).mono ?_
  rintro e w0 ⟨rfl, ⟨L0, hM0⟩, h0⟩
  have hK0 := ((HK1.out _).drewN _).trans h0
  dsimp only at hM0 ⊢
  have hlen := len_take1 stk
  have HM0 : Hid (Ms s inp n bb bF cF base ⟨f, a, pos, stk.take (stk.length - 1), cel, cal, edg⟩ (k + 1) L0 w0) := hM0
  clear h0 hM0
  go_wp2_with fail
  refine (pop_any s inp n bb bF cF base (k + 1) _ _ _ HM0.out (by show 0 < (stk.take (stk.length - 1)).length; omega) (by show (stk.take (stk.length - 1)).length ≤ 100; omega)).mono ?_
  rintro e w2 ⟨rfl, ⟨L2, hM2⟩, h2⟩
  have hK2 := hK0.trans h2
  dsimp only at hM2 ⊢
  rw [take_take1 stk (by omega)] at hM2
  rw [top_take stk (by omega)]
  have HM2 : Hid (Ms s inp n bb bF cF base ⟨f, a, pos, stk.take (stk.length - 2), cel, cal, edg⟩ (k + 1) L2 w2) := hM2
  have hlen2 : (stk.take (stk.length - 2)).length ≤ 100 := by have := List.length_take_le (stk.length - 2) stk; omega
  clear h2 hM2 hK0 hlen HM0
  go_wp2_with fail
  refine (sum_any 5 (Im.snd stk) (Im.top stk) _ hsl htl (by simp)).mono ?_
  rintro e w3 ⟨⟨z, rfl, hz3⟩, rfl⟩
  have HZ : Hid (z % 256 = (Im.ari 5 (Im.snd stk) (Im.top stk) : Nat)) := hz3
  clear hz3
  go_wp2_with fail
  refine (push_any s inp n bb bF cF base (k + 1) _ _ z _ _ HM2.out (by exact hlen2) HZ.out).mono ?_
  rintro e w1 ⟨rfl, ⟨L1, hM1⟩, h1⟩
  have hK1 := hK2.trans h1
  dsimp only at hM1
  clear h1 hK2
  have k32' := hM1.k32
  have k5' := hM1.k5
  have z5' := hM1.bx.frz 5
  dsimp only at k5'
  have HP : Hid (∀ q, StepPost s inp n bb bF cF base ⟨f, a, pos, stk, cel, cal, edg⟩ k w ((w1.setCell ⟨bb, 5, none⟩ (.int .i64 ((a : Int) + ((1 : Nat) : Int)))).drewN q) (.returned (.tuple #[]))) := fun q => by
    have h := hM1.setAt (a + 1)
    rw [cast_add] at h
    exact step_go HS.out hK1 ⟨rfl, ⟨_, h.drewN q⟩, ((Kx.refl base bb w1).set _ _).drewN q⟩
  clear hM1
  go_wp2
  go_region_with (go_at_call 98; refine (size_any 5 _ (by decide) (by decide)).mono ?_; rintro e w' ⟨rfl, rfl⟩)
  all_goals
    go_wp2
    go_end0
    first
      | (rw [wrap1 a (by omega)]; exact HP.out 1)
      | exact HP.out 1

set_option maxHeartbeats 6400000 in
set_option maxRecDepth 100000 in
theorem step_6 (s inp : ByteArray) (n bb bF cF base k : Nat) (m : Im.St) (L : Nat → Value) (w : World) (hM : Ms s inp n bb bF cF base m k L w) (hI : Inv s inp n m) (hk : k ≤ 100000) (hop : Im.bt s m.at_ = 6) (hT : ¬ m.stk.length < 2) (hO : ¬ 16 < m.stk.length - 2 + 1)  :
    Calls Tryz.prog 57 #[.pointer (some ⟨bb, 0, none⟩)] w fun e w' => StepPost s inp n bb bF cF base m k w w' e := by
  have HS : Hid (Im.stepP s inp m = ({ m with stk := m.stk.take (m.stk.length - 2) ++ [Im.ari 6 (Im.snd m.stk) (Im.top m.stk)], at_ := m.at_ + 1 }, 0)) := by
    show Im.stepP s inp m = _
    unfold Im.stepP
    rw [hop]
    rw [if_neg (show ¬ m.stk.length < Im.tk 6 from hT), if_neg (show ¬ 16 < m.stk.length - Im.tk 6 + Im.psh 6 from hO)]
    simp
  have k0 := hM.k0
  have k5 := hM.k5
  have k30 := hM.k30
  have z30 := hM.bx.frz 30
  have ha := hI.ha
  have hs := hI.hs
  have hl := hI.hl
  have hcl := hI.hcl
  have hsz := hI.hz
  rw [hop] at hsz
  have htl := top_lt m.stk (by omega) hI.hv
  have hsl := snd_lt m.stk (by omega) hI.hv
  obtain ⟨ao, cap, hv6, hnc, hcm, -⟩ := owns_shape hM.rs
  have c6 := hM.bx.cell 6 (by omega)
  rw [hv6] at c6
  have hb := (Im.bt_eq s m.at_ ha).trans hop
  have HM1 : Hid (∀ q, Ms s inp n bb bF cF base m (k + 1) (updV L 30 (.int .i64 (k + 1 : Nat))) ((w.drewN q).setCell ⟨bb, 30, none⟩ (.int .i64 ((k : Int) + 1)))) := fun q => by
    have := (hM.drewN q).setSteps (k + 1)
    rw [cast_add] at this
    exact this
  have HK1 : Hid (∀ q, Kx base bb w ((w.drewN q).setCell ⟨bb, 30, none⟩ (.int .i64 ((k : Int) + 1)))) := fun q => ((Kx.refl base bb w).drewN q).set _ _
  clear hM hI hv6 hop
  obtain ⟨f, a, pos, stk, cel, cal, edg⟩ := m
  dsimp only at *
  have ht : Im.tk 6 = 2 := rfl
  have hp : Im.psh 6 = 1 := rfl
  have hz : Im.sz 6 = 1 := rfl
  rw [hz] at hsz
  go_enter Tryz.func57, Tryz.ntmps57
  go_wp2
  go_quiet (fail)
  go_wp2
  go_quiet ((go_at_call 87; exact quiet_at ⟨_, rfl⟩ (takes_any 6 _ (by decide))))
  go_wp2
  go_quiet ((first | (go_at_call 87; exact quiet_at ⟨_, rfl⟩ (takes_any 6 _ (by decide))) | (go_at_call 89; exact quiet_at ⟨_, rfl⟩ (pushes_any 6 _ (by decide)))))
  go_wp2_with fail
  refine (pop_any s inp n bb bF cF base (k + 1) _ _ _ ((HM1.out _).drewN _) (by show 0 < stk.length; omega) (by show stk.length ≤ 100; omega)).mono ?_
  rintro e w0 ⟨rfl, ⟨L0, hM0⟩, h0⟩
  have hK0 := ((HK1.out _).drewN _).trans h0
  dsimp only at hM0 ⊢
  have hlen := len_take1 stk
  have HM0 : Hid (Ms s inp n bb bF cF base ⟨f, a, pos, stk.take (stk.length - 1), cel, cal, edg⟩ (k + 1) L0 w0) := hM0
  clear h0 hM0
  go_wp2_with fail
  refine (pop_any s inp n bb bF cF base (k + 1) _ _ _ HM0.out (by show 0 < (stk.take (stk.length - 1)).length; omega) (by show (stk.take (stk.length - 1)).length ≤ 100; omega)).mono ?_
  rintro e w2 ⟨rfl, ⟨L2, hM2⟩, h2⟩
  have hK2 := hK0.trans h2
  dsimp only at hM2 ⊢
  rw [take_take1 stk (by omega)] at hM2
  rw [top_take stk (by omega)]
  have HM2 : Hid (Ms s inp n bb bF cF base ⟨f, a, pos, stk.take (stk.length - 2), cel, cal, edg⟩ (k + 1) L2 w2) := hM2
  have hlen2 : (stk.take (stk.length - 2)).length ≤ 100 := by have := List.length_take_le (stk.length - 2) stk; omega
  clear h2 hM2 hK0 hlen HM0
  go_wp2_with fail
  refine (sum_any 6 (Im.snd stk) (Im.top stk) _ hsl htl (by simp)).mono ?_
  rintro e w3 ⟨⟨z, rfl, hz3⟩, rfl⟩
  have HZ : Hid (z % 256 = (Im.ari 6 (Im.snd stk) (Im.top stk) : Nat)) := hz3
  clear hz3
  go_wp2_with fail
  refine (push_any s inp n bb bF cF base (k + 1) _ _ z _ _ HM2.out (by exact hlen2) HZ.out).mono ?_
  rintro e w1 ⟨rfl, ⟨L1, hM1⟩, h1⟩
  have hK1 := hK2.trans h1
  dsimp only at hM1
  clear h1 hK2
  have k32' := hM1.k32
  have k5' := hM1.k5
  have z5' := hM1.bx.frz 5
  dsimp only at k5'
  have HP : Hid (∀ q, StepPost s inp n bb bF cF base ⟨f, a, pos, stk, cel, cal, edg⟩ k w ((w1.setCell ⟨bb, 5, none⟩ (.int .i64 ((a : Int) + ((1 : Nat) : Int)))).drewN q) (.returned (.tuple #[]))) := fun q => by
    have h := hM1.setAt (a + 1)
    rw [cast_add] at h
    exact step_go HS.out hK1 ⟨rfl, ⟨_, h.drewN q⟩, ((Kx.refl base bb w1).set _ _).drewN q⟩
  clear hM1
  go_wp2
  go_region_with (go_at_call 98; refine (size_any 6 _ (by decide) (by decide)).mono ?_; rintro e w' ⟨rfl, rfl⟩)
  all_goals
    go_wp2
    go_end0
    first
      | (rw [wrap1 a (by omega)]; exact HP.out 1)
      | exact HP.out 1

set_option maxHeartbeats 6400000 in
set_option maxRecDepth 100000 in
theorem step_8 (s inp : ByteArray) (n bb bF cF base k : Nat) (m : Im.St) (L : Nat → Value) (w : World) (hM : Ms s inp n bb bF cF base m k L w) (hI : Inv s inp n m) (hk : k ≤ 100000) (hop : Im.bt s m.at_ = 8) (hT : ¬ m.stk.length < 2) (hO : ¬ 16 < m.stk.length - 2 + 1)  :
    Calls Tryz.prog 57 #[.pointer (some ⟨bb, 0, none⟩)] w fun e w' => StepPost s inp n bb bF cF base m k w w' e := by
  have HS : Hid (Im.stepP s inp m = ({ m with stk := m.stk.take (m.stk.length - 2) ++ [Im.ari 8 (Im.snd m.stk) (Im.top m.stk)], at_ := m.at_ + 1 }, 0)) := by
    show Im.stepP s inp m = _
    unfold Im.stepP
    rw [hop]
    rw [if_neg (show ¬ m.stk.length < Im.tk 8 from hT), if_neg (show ¬ 16 < m.stk.length - Im.tk 8 + Im.psh 8 from hO)]
    simp
  have k0 := hM.k0
  have k5 := hM.k5
  have k30 := hM.k30
  have z30 := hM.bx.frz 30
  have ha := hI.ha
  have hs := hI.hs
  have hl := hI.hl
  have hcl := hI.hcl
  have hsz := hI.hz
  rw [hop] at hsz
  have htl := top_lt m.stk (by omega) hI.hv
  have hsl := snd_lt m.stk (by omega) hI.hv
  obtain ⟨ao, cap, hv6, hnc, hcm, -⟩ := owns_shape hM.rs
  have c6 := hM.bx.cell 6 (by omega)
  rw [hv6] at c6
  have hb := (Im.bt_eq s m.at_ ha).trans hop
  have HM1 : Hid (∀ q, Ms s inp n bb bF cF base m (k + 1) (updV L 30 (.int .i64 (k + 1 : Nat))) ((w.drewN q).setCell ⟨bb, 30, none⟩ (.int .i64 ((k : Int) + 1)))) := fun q => by
    have := (hM.drewN q).setSteps (k + 1)
    rw [cast_add] at this
    exact this
  have HK1 : Hid (∀ q, Kx base bb w ((w.drewN q).setCell ⟨bb, 30, none⟩ (.int .i64 ((k : Int) + 1)))) := fun q => ((Kx.refl base bb w).drewN q).set _ _
  clear hM hI hv6 hop
  obtain ⟨f, a, pos, stk, cel, cal, edg⟩ := m
  dsimp only at *
  have ht : Im.tk 8 = 2 := rfl
  have hp : Im.psh 8 = 1 := rfl
  have hz : Im.sz 8 = 1 := rfl
  rw [hz] at hsz
  go_enter Tryz.func57, Tryz.ntmps57
  go_wp2
  go_quiet (fail)
  go_wp2
  go_quiet ((go_at_call 87; exact quiet_at ⟨_, rfl⟩ (takes_any 8 _ (by decide))))
  go_wp2
  go_quiet ((first | (go_at_call 87; exact quiet_at ⟨_, rfl⟩ (takes_any 8 _ (by decide))) | (go_at_call 89; exact quiet_at ⟨_, rfl⟩ (pushes_any 8 _ (by decide)))))
  go_wp2_with fail
  refine (pop_any s inp n bb bF cF base (k + 1) _ _ _ ((HM1.out _).drewN _) (by show 0 < stk.length; omega) (by show stk.length ≤ 100; omega)).mono ?_
  rintro e w0 ⟨rfl, ⟨L0, hM0⟩, h0⟩
  have hK0 := ((HK1.out _).drewN _).trans h0
  dsimp only at hM0 ⊢
  have hlen := len_take1 stk
  have HM0 : Hid (Ms s inp n bb bF cF base ⟨f, a, pos, stk.take (stk.length - 1), cel, cal, edg⟩ (k + 1) L0 w0) := hM0
  clear h0 hM0
  go_wp2_with fail
  refine (pop_any s inp n bb bF cF base (k + 1) _ _ _ HM0.out (by show 0 < (stk.take (stk.length - 1)).length; omega) (by show (stk.take (stk.length - 1)).length ≤ 100; omega)).mono ?_
  rintro e w2 ⟨rfl, ⟨L2, hM2⟩, h2⟩
  have hK2 := hK0.trans h2
  dsimp only at hM2 ⊢
  rw [take_take1 stk (by omega)] at hM2
  rw [top_take stk (by omega)]
  have HM2 : Hid (Ms s inp n bb bF cF base ⟨f, a, pos, stk.take (stk.length - 2), cel, cal, edg⟩ (k + 1) L2 w2) := hM2
  have hlen2 : (stk.take (stk.length - 2)).length ≤ 100 := by have := List.length_take_le (stk.length - 2) stk; omega
  clear h2 hM2 hK0 hlen HM0
  go_wp2_with fail
  refine (sum_any 8 (Im.snd stk) (Im.top stk) _ hsl htl (by simp)).mono ?_
  rintro e w3 ⟨⟨z, rfl, hz3⟩, rfl⟩
  have HZ : Hid (z % 256 = (Im.ari 8 (Im.snd stk) (Im.top stk) : Nat)) := hz3
  clear hz3
  go_wp2_with fail
  refine (push_any s inp n bb bF cF base (k + 1) _ _ z _ _ HM2.out (by exact hlen2) HZ.out).mono ?_
  rintro e w1 ⟨rfl, ⟨L1, hM1⟩, h1⟩
  have hK1 := hK2.trans h1
  dsimp only at hM1
  clear h1 hK2
  have k32' := hM1.k32
  have k5' := hM1.k5
  have z5' := hM1.bx.frz 5
  dsimp only at k5'
  have HP : Hid (∀ q, StepPost s inp n bb bF cF base ⟨f, a, pos, stk, cel, cal, edg⟩ k w ((w1.setCell ⟨bb, 5, none⟩ (.int .i64 ((a : Int) + ((1 : Nat) : Int)))).drewN q) (.returned (.tuple #[]))) := fun q => by
    have h := hM1.setAt (a + 1)
    rw [cast_add] at h
    exact step_go HS.out hK1 ⟨rfl, ⟨_, h.drewN q⟩, ((Kx.refl base bb w1).set _ _).drewN q⟩
  clear hM1
  go_wp2
  go_region_with (go_at_call 98; refine (size_any 8 _ (by decide) (by decide)).mono ?_; rintro e w' ⟨rfl, rfl⟩)
  all_goals
    go_wp2
    go_end0
    first
      | (rw [wrap1 a (by omega)]; exact HP.out 1)
      | exact HP.out 1

set_option maxHeartbeats 6400000 in
set_option maxRecDepth 100000 in
theorem step_9 (s inp : ByteArray) (n bb bF cF base k : Nat) (m : Im.St) (L : Nat → Value) (w : World) (hM : Ms s inp n bb bF cF base m k L w) (hI : Inv s inp n m) (hk : k ≤ 100000) (hop : Im.bt s m.at_ = 9) (hT : ¬ m.stk.length < 2) (hO : ¬ 16 < m.stk.length - 2 + 1)  :
    Calls Tryz.prog 57 #[.pointer (some ⟨bb, 0, none⟩)] w fun e w' => StepPost s inp n bb bF cF base m k w w' e := by
  have HS : Hid (Im.stepP s inp m = ({ m with stk := m.stk.take (m.stk.length - 2) ++ [Im.ari 9 (Im.snd m.stk) (Im.top m.stk)], at_ := m.at_ + 1 }, 0)) := by
    show Im.stepP s inp m = _
    unfold Im.stepP
    rw [hop]
    rw [if_neg (show ¬ m.stk.length < Im.tk 9 from hT), if_neg (show ¬ 16 < m.stk.length - Im.tk 9 + Im.psh 9 from hO)]
    simp
  have k0 := hM.k0
  have k5 := hM.k5
  have k30 := hM.k30
  have z30 := hM.bx.frz 30
  have ha := hI.ha
  have hs := hI.hs
  have hl := hI.hl
  have hcl := hI.hcl
  have hsz := hI.hz
  rw [hop] at hsz
  have htl := top_lt m.stk (by omega) hI.hv
  have hsl := snd_lt m.stk (by omega) hI.hv
  obtain ⟨ao, cap, hv6, hnc, hcm, -⟩ := owns_shape hM.rs
  have c6 := hM.bx.cell 6 (by omega)
  rw [hv6] at c6
  have hb := (Im.bt_eq s m.at_ ha).trans hop
  have HM1 : Hid (∀ q, Ms s inp n bb bF cF base m (k + 1) (updV L 30 (.int .i64 (k + 1 : Nat))) ((w.drewN q).setCell ⟨bb, 30, none⟩ (.int .i64 ((k : Int) + 1)))) := fun q => by
    have := (hM.drewN q).setSteps (k + 1)
    rw [cast_add] at this
    exact this
  have HK1 : Hid (∀ q, Kx base bb w ((w.drewN q).setCell ⟨bb, 30, none⟩ (.int .i64 ((k : Int) + 1)))) := fun q => ((Kx.refl base bb w).drewN q).set _ _
  clear hM hI hv6 hop
  obtain ⟨f, a, pos, stk, cel, cal, edg⟩ := m
  dsimp only at *
  have ht : Im.tk 9 = 2 := rfl
  have hp : Im.psh 9 = 1 := rfl
  have hz : Im.sz 9 = 1 := rfl
  rw [hz] at hsz
  go_enter Tryz.func57, Tryz.ntmps57
  go_wp2
  go_quiet (fail)
  go_wp2
  go_quiet ((go_at_call 87; exact quiet_at ⟨_, rfl⟩ (takes_any 9 _ (by decide))))
  go_wp2
  go_quiet ((first | (go_at_call 87; exact quiet_at ⟨_, rfl⟩ (takes_any 9 _ (by decide))) | (go_at_call 89; exact quiet_at ⟨_, rfl⟩ (pushes_any 9 _ (by decide)))))
  go_wp2_with fail
  refine (pop_any s inp n bb bF cF base (k + 1) _ _ _ ((HM1.out _).drewN _) (by show 0 < stk.length; omega) (by show stk.length ≤ 100; omega)).mono ?_
  rintro e w0 ⟨rfl, ⟨L0, hM0⟩, h0⟩
  have hK0 := ((HK1.out _).drewN _).trans h0
  dsimp only at hM0 ⊢
  have hlen := len_take1 stk
  have HM0 : Hid (Ms s inp n bb bF cF base ⟨f, a, pos, stk.take (stk.length - 1), cel, cal, edg⟩ (k + 1) L0 w0) := hM0
  clear h0 hM0
  go_wp2_with fail
  refine (pop_any s inp n bb bF cF base (k + 1) _ _ _ HM0.out (by show 0 < (stk.take (stk.length - 1)).length; omega) (by show (stk.take (stk.length - 1)).length ≤ 100; omega)).mono ?_
  rintro e w2 ⟨rfl, ⟨L2, hM2⟩, h2⟩
  have hK2 := hK0.trans h2
  dsimp only at hM2 ⊢
  rw [take_take1 stk (by omega)] at hM2
  rw [top_take stk (by omega)]
  have HM2 : Hid (Ms s inp n bb bF cF base ⟨f, a, pos, stk.take (stk.length - 2), cel, cal, edg⟩ (k + 1) L2 w2) := hM2
  have hlen2 : (stk.take (stk.length - 2)).length ≤ 100 := by have := List.length_take_le (stk.length - 2) stk; omega
  clear h2 hM2 hK0 hlen HM0
  go_wp2_with fail
  refine (sum_any 9 (Im.snd stk) (Im.top stk) _ hsl htl (by simp)).mono ?_
  rintro e w3 ⟨⟨z, rfl, hz3⟩, rfl⟩
  have HZ : Hid (z % 256 = (Im.ari 9 (Im.snd stk) (Im.top stk) : Nat)) := hz3
  clear hz3
  go_wp2_with fail
  refine (push_any s inp n bb bF cF base (k + 1) _ _ z _ _ HM2.out (by exact hlen2) HZ.out).mono ?_
  rintro e w1 ⟨rfl, ⟨L1, hM1⟩, h1⟩
  have hK1 := hK2.trans h1
  dsimp only at hM1
  clear h1 hK2
  have k32' := hM1.k32
  have k5' := hM1.k5
  have z5' := hM1.bx.frz 5
  dsimp only at k5'
  have HP : Hid (∀ q, StepPost s inp n bb bF cF base ⟨f, a, pos, stk, cel, cal, edg⟩ k w ((w1.setCell ⟨bb, 5, none⟩ (.int .i64 ((a : Int) + ((1 : Nat) : Int)))).drewN q) (.returned (.tuple #[]))) := fun q => by
    have h := hM1.setAt (a + 1)
    rw [cast_add] at h
    exact step_go HS.out hK1 ⟨rfl, ⟨_, h.drewN q⟩, ((Kx.refl base bb w1).set _ _).drewN q⟩
  clear hM1
  go_wp2
  go_region_with (go_at_call 98; refine (size_any 9 _ (by decide) (by decide)).mono ?_; rintro e w' ⟨rfl, rfl⟩)
  all_goals
    go_wp2
    go_end0
    first
      | (rw [wrap1 a (by omega)]; exact HP.out 1)
      | exact HP.out 1

set_option maxHeartbeats 6400000 in
set_option maxRecDepth 100000 in
theorem step_7 (s inp : ByteArray) (n bb bF cF base k : Nat) (m : Im.St) (L : Nat → Value) (w : World) (hM : Ms s inp n bb bF cF base m k L w) (hI : Inv s inp n m) (hk : k ≤ 100000) (hop : Im.bt s m.at_ = 7) (hT : ¬ m.stk.length < 2) (hO : ¬ 16 < m.stk.length - 2 + 1) (hx : Im.top m.stk ≠ 0) :
    Calls Tryz.prog 57 #[.pointer (some ⟨bb, 0, none⟩)] w fun e w' => StepPost s inp n bb bF cF base m k w w' e := by
  have HS : Hid (Im.stepP s inp m = ({ m with stk := m.stk.take (m.stk.length - 2) ++ [Im.ari 7 (Im.snd m.stk) (Im.top m.stk)], at_ := m.at_ + 1 }, 0)) := by
    show Im.stepP s inp m = _
    unfold Im.stepP
    rw [hop]
    rw [if_neg (show ¬ m.stk.length < Im.tk 7 from hT), if_neg (show ¬ 16 < m.stk.length - Im.tk 7 + Im.psh 7 from hO)]
    simp [hx]
  have k0 := hM.k0
  have k5 := hM.k5
  have k30 := hM.k30
  have z30 := hM.bx.frz 30
  have ha := hI.ha
  have hs := hI.hs
  have hl := hI.hl
  have hcl := hI.hcl
  have hsz := hI.hz
  rw [hop] at hsz
  have htl := top_lt m.stk (by omega) hI.hv
  have hsl := snd_lt m.stk (by omega) hI.hv
  obtain ⟨ao, cap, hv6, hnc, hcm, -⟩ := owns_shape hM.rs
  have c6 := hM.bx.cell 6 (by omega)
  rw [hv6] at c6
  have hb := (Im.bt_eq s m.at_ ha).trans hop
  have HM1 : Hid (∀ q, Ms s inp n bb bF cF base m (k + 1) (updV L 30 (.int .i64 (k + 1 : Nat))) ((w.drewN q).setCell ⟨bb, 30, none⟩ (.int .i64 ((k : Int) + 1)))) := fun q => by
    have := (hM.drewN q).setSteps (k + 1)
    rw [cast_add] at this
    exact this
  have HK1 : Hid (∀ q, Kx base bb w ((w.drewN q).setCell ⟨bb, 30, none⟩ (.int .i64 ((k : Int) + 1)))) := fun q => ((Kx.refl base bb w).drewN q).set _ _
  clear hM hI hv6 hop
  obtain ⟨f, a, pos, stk, cel, cal, edg⟩ := m
  dsimp only at *
  have ht : Im.tk 7 = 2 := rfl
  have hp : Im.psh 7 = 1 := rfl
  have hz : Im.sz 7 = 1 := rfl
  rw [hz] at hsz
  go_enter Tryz.func57, Tryz.ntmps57
  go_wp2
  go_quiet (fail)
  go_wp2
  go_quiet ((go_at_call 87; exact quiet_at ⟨_, rfl⟩ (takes_any 7 _ (by decide))))
  go_wp2
  go_quiet ((first | (go_at_call 87; exact quiet_at ⟨_, rfl⟩ (takes_any 7 _ (by decide))) | (go_at_call 89; exact quiet_at ⟨_, rfl⟩ (pushes_any 7 _ (by decide)))))
  go_wp2_with fail
  refine (pop_any s inp n bb bF cF base (k + 1) _ _ _ ((HM1.out _).drewN _) (by show 0 < stk.length; omega) (by show stk.length ≤ 100; omega)).mono ?_
  rintro e w0 ⟨rfl, ⟨L0, hM0⟩, h0⟩
  have hK0 := ((HK1.out _).drewN _).trans h0
  dsimp only at hM0 ⊢
  have hlen := len_take1 stk
  have HM0 : Hid (Ms s inp n bb bF cF base ⟨f, a, pos, stk.take (stk.length - 1), cel, cal, edg⟩ (k + 1) L0 w0) := hM0
  clear h0 hM0
  go_wp2_with fail
  refine (pop_any s inp n bb bF cF base (k + 1) _ _ _ HM0.out (by show 0 < (stk.take (stk.length - 1)).length; omega) (by show (stk.take (stk.length - 1)).length ≤ 100; omega)).mono ?_
  rintro e w2 ⟨rfl, ⟨L2, hM2⟩, h2⟩
  have hK2 := hK0.trans h2
  dsimp only at hM2 ⊢
  rw [take_take1 stk (by omega)] at hM2
  rw [top_take stk (by omega)]
  have HM2 : Hid (Ms s inp n bb bF cF base ⟨f, a, pos, stk.take (stk.length - 2), cel, cal, edg⟩ (k + 1) L2 w2) := hM2
  have hlen2 : (stk.take (stk.length - 2)).length ≤ 100 := by have := List.length_take_le (stk.length - 2) stk; omega
  clear h2 hM2 hK0 hlen HM0
  go_wp2_with fail
  refine (sum_any 7 (Im.snd stk) (Im.top stk) _ hsl htl (by exact Or.inr (Or.inr (Or.inr (Or.inr (Or.inr ⟨rfl, hx⟩)))))).mono ?_
  rintro e w3 ⟨⟨z, rfl, hz3⟩, rfl⟩
  have HZ : Hid (z % 256 = (Im.ari 7 (Im.snd stk) (Im.top stk) : Nat)) := hz3
  clear hz3
  go_wp2_with fail
  refine (push_any s inp n bb bF cF base (k + 1) _ _ z _ _ HM2.out (by exact hlen2) HZ.out).mono ?_
  rintro e w1 ⟨rfl, ⟨L1, hM1⟩, h1⟩
  have hK1 := hK2.trans h1
  dsimp only at hM1
  clear h1 hK2
  have k32' := hM1.k32
  have k5' := hM1.k5
  have z5' := hM1.bx.frz 5
  dsimp only at k5'
  have HP : Hid (∀ q, StepPost s inp n bb bF cF base ⟨f, a, pos, stk, cel, cal, edg⟩ k w ((w1.setCell ⟨bb, 5, none⟩ (.int .i64 ((a : Int) + ((1 : Nat) : Int)))).drewN q) (.returned (.tuple #[]))) := fun q => by
    have h := hM1.setAt (a + 1)
    rw [cast_add] at h
    exact step_go HS.out hK1 ⟨rfl, ⟨_, h.drewN q⟩, ((Kx.refl base bb w1).set _ _).drewN q⟩
  clear hM1
  go_wp2
  go_region_with (go_at_call 98; refine (size_any 7 _ (by decide) (by decide)).mono ?_; rintro e w' ⟨rfl, rfl⟩)
  all_goals
    go_wp2
    go_end0
    first
      | (rw [wrap1 a (by omega)]; exact HP.out 1)
      | exact HP.out 1

set_option maxHeartbeats 6400000 in
set_option maxRecDepth 100000 in
theorem step_7z (s inp : ByteArray) (n bb bF cF base k : Nat) (m : Im.St) (L : Nat → Value) (w : World) (hM : Ms s inp n bb bF cF base m k L w) (hI : Inv s inp n m) (hk : k ≤ 100000) (hop : Im.bt s m.at_ = 7) (hT : ¬ m.stk.length < 2) (hO : ¬ 16 < m.stk.length - 2 + 1) (hx : Im.top m.stk = 0) :
    Calls Tryz.prog 57 #[.pointer (some ⟨bb, 0, none⟩)] w fun e w' => StepPost s inp n bb bF cF base m k w w' e := by
  have HS : Hid (Im.stepP s inp m = (m, 3)) := by
    show Im.stepP s inp m = _
    unfold Im.stepP
    rw [hop]
    rw [if_neg (show ¬ m.stk.length < Im.tk 7 from hT), if_neg (show ¬ 16 < m.stk.length - Im.tk 7 + Im.psh 7 from hO)]
    simp [hx]
  have k0 := hM.k0
  have k5 := hM.k5
  have k30 := hM.k30
  have z30 := hM.bx.frz 30
  have ha := hI.ha
  have hs := hI.hs
  have hl := hI.hl
  have hcl := hI.hcl
  have hsz := hI.hz
  rw [hop] at hsz
  have hsl := snd_lt m.stk (by omega) hI.hv
  obtain ⟨ao, cap, hv6, hnc, hcm, -⟩ := owns_shape hM.rs
  have c6 := hM.bx.cell 6 (by omega)
  rw [hv6] at c6
  have hb := (Im.bt_eq s m.at_ ha).trans hop
  have HM1 : Hid (∀ q, Ms s inp n bb bF cF base m (k + 1) (updV L 30 (.int .i64 (k + 1 : Nat))) ((w.drewN q).setCell ⟨bb, 30, none⟩ (.int .i64 ((k : Int) + 1)))) := fun q => by
    have := (hM.drewN q).setSteps (k + 1)
    rw [cast_add] at this
    exact this
  have HK1 : Hid (∀ q, Kx base bb w ((w.drewN q).setCell ⟨bb, 30, none⟩ (.int .i64 ((k : Int) + 1)))) := fun q => ((Kx.refl base bb w).drewN q).set _ _
  clear hM hI hv6 hop
  obtain ⟨f, a, pos, stk, cel, cal, edg⟩ := m
  dsimp only at *
  have ht : Im.tk 7 = 2 := rfl
  have hp : Im.psh 7 = 1 := rfl
  have hz : Im.sz 7 = 1 := rfl
  rw [hz] at hsz
  go_enter Tryz.func57, Tryz.ntmps57
  go_wp2
  go_quiet (fail)
  go_wp2
  go_quiet ((go_at_call 87; exact quiet_at ⟨_, rfl⟩ (takes_any 7 _ (by decide))))
  go_wp2
  go_quiet ((first | (go_at_call 87; exact quiet_at ⟨_, rfl⟩ (takes_any 7 _ (by decide))) | (go_at_call 89; exact quiet_at ⟨_, rfl⟩ (pushes_any 7 _ (by decide)))))
  go_wp2_with fail
  refine (pop_any s inp n bb bF cF base (k + 1) _ _ _ ((HM1.out _).drewN _) (by show 0 < stk.length; omega) (by show stk.length ≤ 100; omega)).mono ?_
  rintro e w0 ⟨rfl, ⟨L0, hM0⟩, h0⟩
  have hK0 := ((HK1.out _).drewN _).trans h0
  dsimp only at hM0 ⊢
  have hlen := len_take1 stk
  have HM0 : Hid (Ms s inp n bb bF cF base ⟨f, a, pos, stk.take (stk.length - 1), cel, cal, edg⟩ (k + 1) L0 w0) := hM0
  clear h0 hM0
  go_wp2_with fail
  refine (pop_any s inp n bb bF cF base (k + 1) _ _ _ HM0.out (by show 0 < (stk.take (stk.length - 1)).length; omega) (by show (stk.take (stk.length - 1)).length ≤ 100; omega)).mono ?_
  rintro e w2 ⟨rfl, ⟨L2, hM2⟩, h2⟩
  have hK2 := hK0.trans h2
  dsimp only at hM2 ⊢
  rw [take_take1 stk (by omega)] at hM2
  rw [top_take stk (by omega)]
  have HM2 : Hid (Ms s inp n bb bF cF base ⟨f, a, pos, stk.take (stk.length - 2), cel, cal, edg⟩ (k + 1) L2 w2) := hM2
  have hlen2 : (stk.take (stk.length - 2)).length ≤ 100 := by have := List.length_take_le (stk.length - 2) stk; omega
  clear h2 hM2 hK0 hlen HM0
  rw [hx]
  go_wp2_with fail
  refine (sum_zero (Im.snd stk) _).mono ?_
  rintro e w3 ⟨rfl, rfl⟩
  go_wp2_with fail
  refine (fault_any s inp n bb bF cF base (k + 1) 3 _ _ _ HM2.out (by show cal.length ≤ 100; omega)).mono ?_
  rintro e w1 h1
  have he := h1.1
  have HP : Hid (StepPost s inp n bb bF cF base ⟨f, a, pos, stk, cel, cal, edg⟩ k w w1 e) := step_fault HS.out (by decide) (by decide) hK2 h1
  subst he
  clear h1
  go_wp2
  first
    | (go_end0; exact HP.out)
    | exact bodyPost_ret (v := .tuple #[]) (by simp [results, Tryz.results57, go_sem]) rfl HP.out

end Go.Proofs.YtbmaiioecnmopaaGreatDoor
