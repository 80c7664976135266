/-
  THE DOCUMENT's SIDE (package triageref): Step, op by op (laid by wip/steps.py). By the verifier of the loop 'triage'.
-/
import Derived.Test.YtbmaiioecnmopaaGreatDoorJ12
namespace Go.Proofs.YtbmaiioecnmopaaGreatDoor
open Go.RowKit

set_option maxHeartbeats 6400000 in
set_option maxRecDepth 100000 in
theorem step_1 (s inp : ByteArray) (n bb bF cF base k : Nat) (m : Im.St) (L : Nat → Value) (w : World) (hM : Ms s inp n bb bF cF base m k L w) (hI : Inv s inp n m) (hk : k ≤ 100000) (hop : Im.bt s m.at_ = 1) (hT : ¬ m.stk.length < 0) (hO : ¬ 16 < m.stk.length - 0 + 1)  :
    Calls Tryz.prog 57 #[.pointer (some ⟨bb, 0, none⟩)] w fun e w' => StepPost s inp n bb bF cF base m k w w' e := by
  have HS : Hid (Im.stepP s inp m = ({ m with stk := m.stk ++ [Im.bt s (m.at_ + 1)], at_ := m.at_ + 2 }, 0)) := by
    show Im.stepP s inp m = _
    unfold Im.stepP
    rw [hop]
    rw [if_neg (show ¬ m.stk.length < Im.tk 1 from hT), if_neg (show ¬ 16 < m.stk.length - Im.tk 1 + Im.psh 1 from hO)]
    simp
  have k0 := hM.k0
  have k5 := hM.k5
  have k30 := hM.k30
  have z30 := hM.bx.frz 30
  have ha := hI.ha
  have hs := hI.hs
  have hl := hI.hl
  have hcl := hI.hcl
  have hsz := hI.hz
  rw [hop] at hsz
  have hb1 := Im.bt_eq s (m.at_ + 1) (by have h : Im.sz 1 = 2 := rfl; rw [h] at hsz; omega)
  have hb256 := Im.bt_lt s (m.at_ + 1)
  have ha1 : m.at_ + 1 < s.size := by have h : Im.sz 1 = 2 := rfl; rw [h] at hsz; omega
  obtain ⟨ao, cap, hv6, hnc, hcm, -⟩ := owns_shape hM.rs
  have c6 := hM.bx.cell 6 (by omega)
  rw [hv6] at c6
  have hb := (Im.bt_eq s m.at_ ha).trans hop
  have HM1 : Hid (∀ q, Ms s inp n bb bF cF base m (k + 1) (updV L 30 (.int .i64 (k + 1 : Nat))) ((w.drewN q).setCell ⟨bb, 30, none⟩ (.int .i64 ((k : Int) + 1)))) := fun q => by
    have := (hM.drewN q).setSteps (k + 1)
    rw [cast_add] at this
    exact this
  have HK1 : Hid (∀ q, Kx base bb w ((w.drewN q).setCell ⟨bb, 30, none⟩ (.int .i64 ((k : Int) + 1)))) := fun q => ((Kx.refl base bb w).drewN q).set _ _
  clear hM hI hv6 hop
  obtain ⟨f, a, pos, stk, cel, cal, edg⟩ := m
  dsimp only at *
  generalize Im.bt s (a + 1) = b at *
  have ha2 : (a : Int) + 1 < (s.size : Int) := by omega
  have ha3 : a + 1 < s.size := by omega
  have hwr := wrap1 a (by omega)
  have ht : Im.tk 1 = 0 := rfl
  have hp : Im.psh 1 = 1 := rfl
  have hz : Im.sz 1 = 2 := rfl
  rw [hz] at hsz
  go_enter Tryz.func57, Tryz.ntmps57
  go_wp2
  go_quiet (fail)
  go_wp2
  go_quiet ((go_at_call 87; exact quiet_at ⟨_, rfl⟩ (takes_any 1 _ (by decide))))
  go_wp2
  go_quiet ((first | (go_at_call 87; exact quiet_at ⟨_, rfl⟩ (takes_any 1 _ (by decide))) | (go_at_call 89; exact quiet_at ⟨_, rfl⟩ (pushes_any 1 _ (by decide)))))
  go_wp2
  go_region_with (go_at_call 93; refine (push_any s inp n bb bF cF base (k + 1) ⟨f, a, pos, stk, cel, cal, edg⟩ (updV L 30 (.int .i64 (k + 1 : Nat))) _ b _ ?_ ?_ ?_).mono ?_; exact ((HM1.out _).drewN _); (show stk.length ≤ 100; omega); (rw [wrap_small _ hb256]; omega); rintro e w1 ⟨rfl, ⟨L1, hM1⟩, h1⟩)
  all_goals
    have hK1 := ((HK1.out _).drewN _).trans h1
    clear h1
    have k32' := hM1.k32
    have k5' := hM1.k5
    have z5' := hM1.bx.frz 5
    dsimp only at k5'
    have HP : Hid (∀ q, StepPost s inp n bb bF cF base ⟨f, a, pos, stk, cel, cal, edg⟩ k w ((w1.setCell ⟨bb, 5, none⟩ (.int .i64 ((a : Int) + ((2 : Nat) : Int)))).drewN q) (.returned (.tuple #[]))) := fun q => by
      have h := hM1.setAt (a + 2)
      rw [cast_add] at h
      exact step_go HS.out hK1 ⟨rfl, ⟨_, h.drewN q⟩, ((Kx.refl base bb w1).set _ _).drewN q⟩
    clear hM1
    go_wp2
    go_region_with (go_at_call 98; refine (size_any 1 _ (by decide) (by decide)).mono ?_; rintro e w' ⟨rfl, rfl⟩)
    all_goals
      go_wp2
      go_end0
      first
        | (rw [wrap2 a (by omega)]; exact HP.out 1)
        | exact HP.out 1

set_option maxHeartbeats 6400000 in
set_option maxRecDepth 100000 in
theorem step_3 (s inp : ByteArray) (n bb bF cF base k : Nat) (m : Im.St) (L : Nat → Value) (w : World) (hM : Ms s inp n bb bF cF base m k L w) (hI : Inv s inp n m) (hk : k ≤ 100000) (hop : Im.bt s m.at_ = 3) (hT : ¬ m.stk.length < 1) (hO : ¬ 16 < m.stk.length - 1 + 2)  :
    Calls Tryz.prog 57 #[.pointer (some ⟨bb, 0, none⟩)] w fun e w' => StepPost s inp n bb bF cF base m k w w' e := by
  have HS : Hid (Im.stepP s inp m = ({ m with stk := m.stk ++ [Im.top m.stk], at_ := m.at_ + 1 }, 0)) := by
    show Im.stepP s inp m = _
    unfold Im.stepP
    rw [hop]
    rw [if_neg (show ¬ m.stk.length < Im.tk 3 from hT), if_neg (show ¬ 16 < m.stk.length - Im.tk 3 + Im.psh 3 from hO)]
    simp
  have k0 := hM.k0
  have k5 := hM.k5
  have k30 := hM.k30
  have z30 := hM.bx.frz 30
  have ha := hI.ha
  have hs := hI.hs
  have hl := hI.hl
  have hcl := hI.hcl
  have hsz := hI.hz
  rw [hop] at hsz
  have htl := top_lt m.stk (by omega) hI.hv
  obtain ⟨ao, cap, hv6, hnc, hcm, -⟩ := owns_shape hM.rs
  have c6 := hM.bx.cell 6 (by omega)
  rw [hv6] at c6
  have hb := (Im.bt_eq s m.at_ ha).trans hop
  have HM1 : Hid (∀ q, Ms s inp n bb bF cF base m (k + 1) (updV L 30 (.int .i64 (k + 1 : Nat))) ((w.drewN q).setCell ⟨bb, 30, none⟩ (.int .i64 ((k : Int) + 1)))) := fun q => by
    have := (hM.drewN q).setSteps (k + 1)
    rw [cast_add] at this
    exact this
  have HK1 : Hid (∀ q, Kx base bb w ((w.drewN q).setCell ⟨bb, 30, none⟩ (.int .i64 ((k : Int) + 1)))) := fun q => ((Kx.refl base bb w).drewN q).set _ _
  clear hM hI hv6 hop
  obtain ⟨f, a, pos, stk, cel, cal, edg⟩ := m
  dsimp only at *
  have ht : Im.tk 3 = 1 := rfl
  have hp : Im.psh 3 = 2 := rfl
  have hz : Im.sz 3 = 1 := rfl
  rw [hz] at hsz
  go_enter Tryz.func57, Tryz.ntmps57
  go_wp2
  go_quiet (fail)
  go_wp2
  go_quiet ((go_at_call 87; exact quiet_at ⟨_, rfl⟩ (takes_any 3 _ (by decide))))
  go_wp2
  go_quiet ((first | (go_at_call 87; exact quiet_at ⟨_, rfl⟩ (takes_any 3 _ (by decide))) | (go_at_call 89; exact quiet_at ⟨_, rfl⟩ (pushes_any 3 _ (by decide)))))
  go_wp2_with fail
  refine (pop_any s inp n bb bF cF base (k + 1) _ _ _ ((HM1.out _).drewN _) (by show 0 < stk.length; omega) (by show stk.length ≤ 100; omega)).mono ?_
  rintro e w0 ⟨rfl, ⟨L0, hM0⟩, h0⟩
  have hK0 := ((HK1.out _).drewN _).trans h0
  dsimp only at hM0 ⊢
  have hlen := len_take1 stk
  have HM0 : Hid (Ms s inp n bb bF cF base ⟨f, a, pos, stk.take (stk.length - 1), cel, cal, edg⟩ (k + 1) L0 w0) := hM0
  clear h0 hM0
  go_wp2_with fail
  refine (push_any s inp n bb bF cF base (k + 1) _ _ _ (Im.top stk) _ HM0.out (by show (stk.take (stk.length - 1)).length ≤ 100; omega) (by omega)).mono ?_
  rintro e w2 ⟨rfl, ⟨L2, hM2⟩, h2⟩
  have hK2 := hK0.trans h2
  dsimp only at hM2
  rw [take_top stk (by omega)] at hM2
  have HM2 : Hid (Ms s inp n bb bF cF base ⟨f, a, pos, stk, cel, cal, edg⟩ (k + 1) L2 w2) := hM2
  clear h2 hM2 hK0 hlen
  go_wp2_with fail
  refine (push_any s inp n bb bF cF base (k + 1) _ _ _ (Im.top stk) _ HM2.out (by show stk.length ≤ 100; omega) (by omega)).mono ?_
  rintro e w1 ⟨rfl, ⟨L1, hM1⟩, h1⟩
  have hK1 := hK2.trans h1
  clear h1 hK2
  have k32' := hM1.k32
  have k5' := hM1.k5
  have z5' := hM1.bx.frz 5
  dsimp only at k5'
  have HP : Hid (∀ q, StepPost s inp n bb bF cF base ⟨f, a, pos, stk, cel, cal, edg⟩ k w ((w1.setCell ⟨bb, 5, none⟩ (.int .i64 ((a : Int) + ((1 : Nat) : Int)))).drewN q) (.returned (.tuple #[]))) := fun q => by
    have h := hM1.setAt (a + 1)
    rw [cast_add] at h
    exact step_go HS.out hK1 ⟨rfl, ⟨_, h.drewN q⟩, ((Kx.refl base bb w1).set _ _).drewN q⟩
  clear hM1
  go_wp2
  go_region_with (go_at_call 98; refine (size_any 3 _ (by decide) (by decide)).mono ?_; rintro e w' ⟨rfl, rfl⟩)
  all_goals
    go_wp2
    go_end0
    first
      | (rw [wrap1 a (by omega)]; exact HP.out 1)
      | exact HP.out 1

set_option maxHeartbeats 6400000 in
set_option maxRecDepth 100000 in
theorem step_13a (s inp : ByteArray) (n bb bF cF base k : Nat) (m : Im.St) (L : Nat → Value) (w : World) (hM : Ms s inp n bb bF cF base m k L w) (hI : Inv s inp n m) (hk : k ≤ 100000) (hop : Im.bt s m.at_ = 13) (hT : ¬ m.stk.length < 0) (hO : ¬ 16 < m.stk.length - 0 + 1) (hx : m.pos < inp.size) :
    Calls Tryz.prog 57 #[.pointer (some ⟨bb, 0, none⟩)] w fun e w' => StepPost s inp n bb bF cF base m k w w' e := by
  have HS : Hid (Im.stepP s inp m = ({ m with stk := m.stk ++ [Im.bt inp m.pos], pos := m.pos + 1, at_ := m.at_ + 1 }, 0)) := by
    show Im.stepP s inp m = _
    unfold Im.stepP
    rw [hop]
    rw [if_neg (show ¬ m.stk.length < Im.tk 13 from hT), if_neg (show ¬ 16 < m.stk.length - Im.tk 13 + Im.psh 13 from hO)]
    simp [hx]
  have k0 := hM.k0
  have k5 := hM.k5
  have k30 := hM.k30
  have z30 := hM.bx.frz 30
  have ha := hI.ha
  have hs := hI.hs
  have hl := hI.hl
  have hcl := hI.hcl
  have hsz := hI.hz
  rw [hop] at hsz
  have hin := hI.hin
  obtain ⟨ao, cap, hv6, hnc, hcm, -⟩ := owns_shape hM.rs
  have c6 := hM.bx.cell 6 (by omega)
  rw [hv6] at c6
  have hb := (Im.bt_eq s m.at_ ha).trans hop
  have HM1 : Hid (∀ q, Ms s inp n bb bF cF base m (k + 1) (updV L 30 (.int .i64 (k + 1 : Nat))) ((w.drewN q).setCell ⟨bb, 30, none⟩ (.int .i64 ((k : Int) + 1)))) := fun q => by
    have := (hM.drewN q).setSteps (k + 1)
    rw [cast_add] at this
    exact this
  have HK1 : Hid (∀ q, Kx base bb w ((w.drewN q).setCell ⟨bb, 30, none⟩ (.int .i64 ((k : Int) + 1)))) := fun q => ((Kx.refl base bb w).drewN q).set _ _
  clear hM hI hv6 hop
  obtain ⟨f, a, pos, stk, cel, cal, edg⟩ := m
  dsimp only at *
  have ht : Im.tk 13 = 0 := rfl
  have hp : Im.psh 13 = 1 := rfl
  have hz : Im.sz 13 = 1 := rfl
  rw [hz] at hsz
  go_enter Tryz.func57, Tryz.ntmps57
  go_wp2
  go_quiet (fail)
  go_wp2
  go_quiet ((go_at_call 87; exact quiet_at ⟨_, rfl⟩ (takes_any 13 _ (by decide))))
  go_wp2
  go_quiet ((first | (go_at_call 87; exact quiet_at ⟨_, rfl⟩ (takes_any 13 _ (by decide))) | (go_at_call 89; exact quiet_at ⟨_, rfl⟩ (pushes_any 13 _ (by decide)))))
  go_wp2_with fail
  refine (input_in s inp n bb bF cF base (k + 1) _ _ _ ((HM1.out _).drewN _) (by show stk.length ≤ 100; omega) hin (by exact hx)).mono ?_
  rintro e w1 ⟨rfl, ⟨L1, hM1⟩, h1⟩
  have hK1 := ((HK1.out _).drewN _).trans h1
  dsimp only at hM1
  clear h1
  have k32' := hM1.k32
  have k5' := hM1.k5
  have z5' := hM1.bx.frz 5
  dsimp only at k5'
  have HP : Hid (∀ q, StepPost s inp n bb bF cF base ⟨f, a, pos, stk, cel, cal, edg⟩ k w ((w1.setCell ⟨bb, 5, none⟩ (.int .i64 ((a : Int) + ((1 : Nat) : Int)))).drewN q) (.returned (.tuple #[]))) := fun q => by
    have h := hM1.setAt (a + 1)
    rw [cast_add] at h
    exact step_go HS.out hK1 ⟨rfl, ⟨_, h.drewN q⟩, ((Kx.refl base bb w1).set _ _).drewN q⟩
  clear hM1
  go_wp2
  go_region_with (go_at_call 98; refine (size_any 13 _ (by decide) (by decide)).mono ?_; rintro e w' ⟨rfl, rfl⟩)
  all_goals
    go_wp2
    go_end0
    first
      | (rw [wrap1 a (by omega)]; exact HP.out 1)
      | exact HP.out 1

set_option maxHeartbeats 6400000 in
set_option maxRecDepth 100000 in
theorem step_13b (s inp : ByteArray) (n bb bF cF base k : Nat) (m : Im.St) (L : Nat → Value) (w : World) (hM : Ms s inp n bb bF cF base m k L w) (hI : Inv s inp n m) (hk : k ≤ 100000) (hop : Im.bt s m.at_ = 13) (hT : ¬ m.stk.length < 0) (hO : ¬ 16 < m.stk.length - 0 + 1) (hx : ¬ m.pos < inp.size) :
    Calls Tryz.prog 57 #[.pointer (some ⟨bb, 0, none⟩)] w fun e w' => StepPost s inp n bb bF cF base m k w w' e := by
  have HS : Hid (Im.stepP s inp m = ({ m with stk := m.stk ++ [0], at_ := m.at_ + 1 }, 0)) := by
    show Im.stepP s inp m = _
    unfold Im.stepP
    rw [hop]
    rw [if_neg (show ¬ m.stk.length < Im.tk 13 from hT), if_neg (show ¬ 16 < m.stk.length - Im.tk 13 + Im.psh 13 from hO)]
    simp [hx]
  have k0 := hM.k0
  have k5 := hM.k5
  have k30 := hM.k30
  have z30 := hM.bx.frz 30
  have ha := hI.ha
  have hs := hI.hs
  have hl := hI.hl
  have hcl := hI.hcl
  have hsz := hI.hz
  rw [hop] at hsz
  have hpp := hI.hp
  obtain ⟨ao, cap, hv6, hnc, hcm, -⟩ := owns_shape hM.rs
  have c6 := hM.bx.cell 6 (by omega)
  rw [hv6] at c6
  have hb := (Im.bt_eq s m.at_ ha).trans hop
  have HM1 : Hid (∀ q, Ms s inp n bb bF cF base m (k + 1) (updV L 30 (.int .i64 (k + 1 : Nat))) ((w.drewN q).setCell ⟨bb, 30, none⟩ (.int .i64 ((k : Int) + 1)))) := fun q => by
    have := (hM.drewN q).setSteps (k + 1)
    rw [cast_add] at this
    exact this
  have HK1 : Hid (∀ q, Kx base bb w ((w.drewN q).setCell ⟨bb, 30, none⟩ (.int .i64 ((k : Int) + 1)))) := fun q => ((Kx.refl base bb w).drewN q).set _ _
  clear hM hI hv6 hop
  obtain ⟨f, a, pos, stk, cel, cal, edg⟩ := m
  dsimp only at *
  have ht : Im.tk 13 = 0 := rfl
  have hp : Im.psh 13 = 1 := rfl
  have hz : Im.sz 13 = 1 := rfl
  rw [hz] at hsz
  go_enter Tryz.func57, Tryz.ntmps57
  go_wp2
  go_quiet (fail)
  go_wp2
  go_quiet ((go_at_call 87; exact quiet_at ⟨_, rfl⟩ (takes_any 13 _ (by decide))))
  go_wp2
  go_quiet ((first | (go_at_call 87; exact quiet_at ⟨_, rfl⟩ (takes_any 13 _ (by decide))) | (go_at_call 89; exact quiet_at ⟨_, rfl⟩ (pushes_any 13 _ (by decide)))))
  go_wp2_with fail
  refine (input_none s inp n bb bF cF base (k + 1) _ _ _ ((HM1.out _).drewN _) (by show stk.length ≤ 100; omega) (by exact hx) (by exact hpp)).mono ?_
  rintro e w1 ⟨rfl, ⟨L1, hM1⟩, h1⟩
  have hK1 := ((HK1.out _).drewN _).trans h1
  dsimp only at hM1
  clear h1
  have k32' := hM1.k32
  have k5' := hM1.k5
  have z5' := hM1.bx.frz 5
  dsimp only at k5'
  have HP : Hid (∀ q, StepPost s inp n bb bF cF base ⟨f, a, pos, stk, cel, cal, edg⟩ k w ((w1.setCell ⟨bb, 5, none⟩ (.int .i64 ((a : Int) + ((1 : Nat) : Int)))).drewN q) (.returned (.tuple #[]))) := fun q => by
    have h := hM1.setAt (a + 1)
    rw [cast_add] at h
    exact step_go HS.out hK1 ⟨rfl, ⟨_, h.drewN q⟩, ((Kx.refl base bb w1).set _ _).drewN q⟩
  clear hM1
  go_wp2
  go_region_with (go_at_call 98; refine (size_any 13 _ (by decide) (by decide)).mono ?_; rintro e w' ⟨rfl, rfl⟩)
  all_goals
    go_wp2
    go_end0
    first
      | (rw [wrap1 a (by omega)]; exact HP.out 1)
      | exact HP.out 1

set_option maxHeartbeats 6400000 in
set_option maxRecDepth 100000 in
theorem step_14 (s inp : ByteArray) (n bb bF cF base k : Nat) (m : Im.St) (L : Nat → Value) (w : World) (hM : Ms s inp n bb bF cF base m k L w) (hI : Inv s inp n m) (hk : k ≤ 100000) (hop : Im.bt s m.at_ = 14) (hT : ¬ m.stk.length < 0) (hO : ¬ 16 < m.stk.length - 0 + 1)  :
    Calls Tryz.prog 57 #[.pointer (some ⟨bb, 0, none⟩)] w fun e w' => StepPost s inp n bb bF cF base m k w w' e := by
  have HS : Hid (Im.stepP s inp m = ({ m with stk := m.stk ++ [if m.pos < inp.size then 1 else 0], at_ := m.at_ + 1 }, 0)) := by
    show Im.stepP s inp m = _
    unfold Im.stepP
    rw [hop]
    rw [if_neg (show ¬ m.stk.length < Im.tk 14 from hT), if_neg (show ¬ 16 < m.stk.length - Im.tk 14 + Im.psh 14 from hO)]
    simp
  have k0 := hM.k0
  have k5 := hM.k5
  have k30 := hM.k30
  have z30 := hM.bx.frz 30
  have ha := hI.ha
  have hs := hI.hs
  have hl := hI.hl
  have hcl := hI.hcl
  have hsz := hI.hz
  rw [hop] at hsz
  have hpp := hI.hp
  obtain ⟨ao, cap, hv6, hnc, hcm, -⟩ := owns_shape hM.rs
  have c6 := hM.bx.cell 6 (by omega)
  rw [hv6] at c6
  have hb := (Im.bt_eq s m.at_ ha).trans hop
  have HM1 : Hid (∀ q, Ms s inp n bb bF cF base m (k + 1) (updV L 30 (.int .i64 (k + 1 : Nat))) ((w.drewN q).setCell ⟨bb, 30, none⟩ (.int .i64 ((k : Int) + 1)))) := fun q => by
    have := (hM.drewN q).setSteps (k + 1)
    rw [cast_add] at this
    exact this
  have HK1 : Hid (∀ q, Kx base bb w ((w.drewN q).setCell ⟨bb, 30, none⟩ (.int .i64 ((k : Int) + 1)))) := fun q => ((Kx.refl base bb w).drewN q).set _ _
  clear hM hI hv6 hop
  obtain ⟨f, a, pos, stk, cel, cal, edg⟩ := m
  dsimp only at *
  have ht : Im.tk 14 = 0 := rfl
  have hp : Im.psh 14 = 1 := rfl
  have hz : Im.sz 14 = 1 := rfl
  rw [hz] at hsz
  go_enter Tryz.func57, Tryz.ntmps57
  go_wp2
  go_quiet (fail)
  go_wp2
  go_quiet ((go_at_call 87; exact quiet_at ⟨_, rfl⟩ (takes_any 14 _ (by decide))))
  go_wp2
  go_quiet ((first | (go_at_call 87; exact quiet_at ⟨_, rfl⟩ (takes_any 14 _ (by decide))) | (go_at_call 89; exact quiet_at ⟨_, rfl⟩ (pushes_any 14 _ (by decide)))))
  go_wp2_with fail
  refine (input_more s inp n bb bF cF base (k + 1) _ _ _ ((HM1.out _).drewN _) (by show stk.length ≤ 100; omega) (by exact hpp)).mono ?_
  rintro e w1 ⟨rfl, ⟨L1, hM1⟩, h1⟩
  have hK1 := ((HK1.out _).drewN _).trans h1
  dsimp only at hM1
  clear h1
  have k32' := hM1.k32
  have k5' := hM1.k5
  have z5' := hM1.bx.frz 5
  dsimp only at k5'
  have HP : Hid (∀ q, StepPost s inp n bb bF cF base ⟨f, a, pos, stk, cel, cal, edg⟩ k w ((w1.setCell ⟨bb, 5, none⟩ (.int .i64 ((a : Int) + ((1 : Nat) : Int)))).drewN q) (.returned (.tuple #[]))) := fun q => by
    have h := hM1.setAt (a + 1)
    rw [cast_add] at h
    exact step_go HS.out hK1 ⟨rfl, ⟨_, h.drewN q⟩, ((Kx.refl base bb w1).set _ _).drewN q⟩
  clear hM1
  go_wp2
  go_region_with (go_at_call 98; refine (size_any 14 _ (by decide) (by decide)).mono ?_; rintro e w' ⟨rfl, rfl⟩)
  all_goals
    go_wp2
    go_end0
    first
      | (rw [wrap1 a (by omega)]; exact HP.out 1)
      | exact HP.out 1

end Go.Proofs.YtbmaiioecnmopaaGreatDoor
