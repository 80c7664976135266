/-
  THE DOCUMENT's SIDE (package triageref): Step, op by op (laid by wip/steps.py). By the verifier of the loop 'triage'.
-/
import Derived.Test.YtjhjkdcophcgaaaGreatDoorJ19
namespace Go.Proofs.YtjhjkdcophcgaaaGreatDoor
open Go.RowKit

set_option maxHeartbeats 6400000 in
set_option maxRecDepth 100000 in
theorem step_15a (s inp : ByteArray) (n bb bF cF base k : Nat) (m : Im.St) (L : Nat → Value) (w : World) (hM : Ms s inp n bb bF cF base m k L w) (hI : Inv s inp n m) (hk : k ≤ 100000) (hop : Im.bt s m.at_ = 15) (hT : ¬ m.stk.length < 1) (hO : ¬ 16 < m.stk.length - 1 + 1) (hx : 16 ≤ Im.top m.stk) :
    Calls Tryz.prog 57 #[.pointer (some ⟨bb, 0, none⟩)] w fun e w' => StepPost s inp n bb bF cF base m k w w' e := by
  have HS : Hid (Im.stepP s inp m = (m, 4)) := by
    show Im.stepP s inp m = _
    unfold Im.stepP
    rw [hop]
    rw [if_neg (show ¬ m.stk.length < Im.tk 15 from hT), if_neg (show ¬ 16 < m.stk.length - Im.tk 15 + Im.psh 15 from hO)]
    simp [hx]
  have k0 := hM.k0
  have k5 := hM.k5
  have k30 := hM.k30
  have z30 := hM.bx.frz 30
  have ha := hI.ha
  have hs := hI.hs
  have hl := hI.hl
  have hcl := hI.hcl
  have hsz := hI.hz
  rw [hop] at hsz

  obtain ⟨ao, cap, hv6, hnc, hcm, -⟩ := owns_shape hM.rs
  have c6 := hM.bx.cell 6 (by omega)
  rw [hv6] at c6
  have hb := (Im.bt_eq s m.at_ ha).trans hop
  have HM1 : Hid (∀ q, Ms s inp n bb bF cF base m (k + 1) (updV L 30 (.int .i64 (k + 1 : Nat))) ((w.drewN q).setCell ⟨bb, 30, none⟩ (.int .i64 ((k : Int) + 1)))) := fun q => by
    have := (hM.drewN q).setSteps (k + 1)
    rw [cast_add] at this
    exact this
  have HK1 : Hid (∀ q, Kx base bb w ((w.drewN q).setCell ⟨bb, 30, none⟩ (.int .i64 ((k : Int) + 1)))) := fun q => ((Kx.refl base bb w).drewN q).set _ _
  clear hM hI hv6 hop
  obtain ⟨f, a, pos, stk, cel, cal, edg⟩ := m
  dsimp only at *
  have ht : Im.tk 15 = 1 := rfl
  have hp : Im.psh 15 = 1 := rfl
  have hz : Im.sz 15 = 1 := rfl
  rw [hz] at hsz
  go_enter Tryz.func57, Tryz.ntmps57
  go_wp2
  go_quiet (fail)
  go_wp2
  go_quiet ((go_at_call 87; exact quiet_at ⟨_, rfl⟩ (takes_any 15 _ (by decide))))
  go_wp2
  go_quiet ((first | (go_at_call 87; exact quiet_at ⟨_, rfl⟩ (takes_any 15 _ (by decide))) | (go_at_call 89; exact quiet_at ⟨_, rfl⟩ (pushes_any 15 _ (by decide)))))
  go_wp2_with fail
  refine (cells_wild15 s inp n bb bF cF base (k + 1) _ _ _ ((HM1.out _).drewN _) (by show stk.length ≤ 100; omega) (by show 0 < stk.length; omega) (by show cal.length ≤ 100; omega) (by exact hx)).mono ?_
  rintro e w1 h1
  have he := h1.1
  have HP : Hid (StepPost s inp n bb bF cF base ⟨f, a, pos, stk, cel, cal, edg⟩ k w w1 e) := step_fault HS.out (by decide) (by decide) ((HK1.out _).drewN _) h1
  obtain ⟨-, ⟨L1, hD⟩, -⟩ := h1
  have k32' : w1.cell? ⟨bb, 32, none⟩ = some (.bool true) := (hD.bx.cell 32 (by omega)).trans (by rw [hD.l32])
  subst he
  clear hD
  go_wp2
  go_end0
  exact HP.out

set_option maxHeartbeats 6400000 in
set_option maxRecDepth 100000 in
theorem step_16a (s inp : ByteArray) (n bb bF cF base k : Nat) (m : Im.St) (L : Nat → Value) (w : World) (hM : Ms s inp n bb bF cF base m k L w) (hI : Inv s inp n m) (hk : k ≤ 100000) (hop : Im.bt s m.at_ = 16) (hT : ¬ m.stk.length < 2) (hO : ¬ 16 < m.stk.length - 2 + 0) (hx : 16 ≤ Im.top m.stk) :
    Calls Tryz.prog 57 #[.pointer (some ⟨bb, 0, none⟩)] w fun e w' => StepPost s inp n bb bF cF base m k w w' e := by
  have HS : Hid (Im.stepP s inp m = (m, 4)) := by
    show Im.stepP s inp m = _
    unfold Im.stepP
    rw [hop]
    rw [if_neg (show ¬ m.stk.length < Im.tk 16 from hT), if_neg (show ¬ 16 < m.stk.length - Im.tk 16 + Im.psh 16 from hO)]
    simp [hx]
  have k0 := hM.k0
  have k5 := hM.k5
  have k30 := hM.k30
  have z30 := hM.bx.frz 30
  have ha := hI.ha
  have hs := hI.hs
  have hl := hI.hl
  have hcl := hI.hcl
  have hsz := hI.hz
  rw [hop] at hsz

  obtain ⟨ao, cap, hv6, hnc, hcm, -⟩ := owns_shape hM.rs
  have c6 := hM.bx.cell 6 (by omega)
  rw [hv6] at c6
  have hb := (Im.bt_eq s m.at_ ha).trans hop
  have HM1 : Hid (∀ q, Ms s inp n bb bF cF base m (k + 1) (updV L 30 (.int .i64 (k + 1 : Nat))) ((w.drewN q).setCell ⟨bb, 30, none⟩ (.int .i64 ((k : Int) + 1)))) := fun q => by
    have := (hM.drewN q).setSteps (k + 1)
    rw [cast_add] at this
    exact this
  have HK1 : Hid (∀ q, Kx base bb w ((w.drewN q).setCell ⟨bb, 30, none⟩ (.int .i64 ((k : Int) + 1)))) := fun q => ((Kx.refl base bb w).drewN q).set _ _
  clear hM hI hv6 hop
  obtain ⟨f, a, pos, stk, cel, cal, edg⟩ := m
  dsimp only at *
  have ht : Im.tk 16 = 2 := rfl
  have hp : Im.psh 16 = 0 := rfl
  have hz : Im.sz 16 = 1 := rfl
  rw [hz] at hsz
  go_enter Tryz.func57, Tryz.ntmps57
  go_wp2
  go_quiet (fail)
  go_wp2
  go_quiet ((go_at_call 87; exact quiet_at ⟨_, rfl⟩ (takes_any 16 _ (by decide))))
  go_wp2
  go_quiet ((first | (go_at_call 87; exact quiet_at ⟨_, rfl⟩ (takes_any 16 _ (by decide))) | (go_at_call 89; exact quiet_at ⟨_, rfl⟩ (pushes_any 16 _ (by decide)))))
  go_wp2_with fail
  refine (cells_wild16 s inp n bb bF cF base (k + 1) _ _ _ ((HM1.out _).drewN _) (by show stk.length ≤ 100; omega) (by show 0 < stk.length; omega) (by show cal.length ≤ 100; omega) (by exact hx)).mono ?_
  rintro e w1 h1
  have he := h1.1
  have HP : Hid (StepPost s inp n bb bF cF base ⟨f, a, pos, stk, cel, cal, edg⟩ k w w1 e) := step_fault HS.out (by decide) (by decide) ((HK1.out _).drewN _) h1
  obtain ⟨-, ⟨L1, hD⟩, -⟩ := h1
  have k32' : w1.cell? ⟨bb, 32, none⟩ = some (.bool true) := (hD.bx.cell 32 (by omega)).trans (by rw [hD.l32])
  subst he
  clear hD
  go_wp2
  go_end0
  exact HP.out

set_option maxHeartbeats 6400000 in
set_option maxRecDepth 100000 in
theorem step_15b (s inp : ByteArray) (n bb bF cF base k : Nat) (m : Im.St) (L : Nat → Value) (w : World) (hM : Ms s inp n bb bF cF base m k L w) (hI : Inv s inp n m) (hk : k ≤ 100000) (hop : Im.bt s m.at_ = 15) (hT : ¬ m.stk.length < 1) (hO : ¬ 16 < m.stk.length - 1 + 1) (hx : Im.top m.stk < 16) :
    Calls Tryz.prog 57 #[.pointer (some ⟨bb, 0, none⟩)] w fun e w' => StepPost s inp n bb bF cF base m k w w' e := by
  have HS : Hid (Im.stepP s inp m = ({ m with stk := m.stk.take (m.stk.length - 1) ++ [m.cel (Im.top m.stk)], at_ := m.at_ + 1 }, 0)) := by
    show Im.stepP s inp m = _
    unfold Im.stepP
    rw [hop]
    rw [if_neg (show ¬ m.stk.length < Im.tk 15 from hT), if_neg (show ¬ 16 < m.stk.length - Im.tk 15 + Im.psh 15 from hO)]
    simp [show ¬ 16 ≤ Im.top m.stk by omega]
  have k0 := hM.k0
  have k5 := hM.k5
  have k30 := hM.k30
  have z30 := hM.bx.frz 30
  have ha := hI.ha
  have hs := hI.hs
  have hl := hI.hl
  have hcl := hI.hcl
  have hsz := hI.hz
  rw [hop] at hsz
  have hcc := hI.hc
  obtain ⟨ao, cap, hv6, hnc, hcm, -⟩ := owns_shape hM.rs
  have c6 := hM.bx.cell 6 (by omega)
  rw [hv6] at c6
  have hb := (Im.bt_eq s m.at_ ha).trans hop
  have HM1 : Hid (∀ q, Ms s inp n bb bF cF base m (k + 1) (updV L 30 (.int .i64 (k + 1 : Nat))) ((w.drewN q).setCell ⟨bb, 30, none⟩ (.int .i64 ((k : Int) + 1)))) := fun q => by
    have := (hM.drewN q).setSteps (k + 1)
    rw [cast_add] at this
    exact this
  have HK1 : Hid (∀ q, Kx base bb w ((w.drewN q).setCell ⟨bb, 30, none⟩ (.int .i64 ((k : Int) + 1)))) := fun q => ((Kx.refl base bb w).drewN q).set _ _
  clear hM hI hv6 hop
  obtain ⟨f, a, pos, stk, cel, cal, edg⟩ := m
  dsimp only at *
  have ht : Im.tk 15 = 1 := rfl
  have hp : Im.psh 15 = 1 := rfl
  have hz : Im.sz 15 = 1 := rfl
  rw [hz] at hsz
  go_enter Tryz.func57, Tryz.ntmps57
  go_wp2
  go_quiet (fail)
  go_wp2
  go_quiet ((go_at_call 87; exact quiet_at ⟨_, rfl⟩ (takes_any 15 _ (by decide))))
  go_wp2
  go_quiet ((first | (go_at_call 87; exact quiet_at ⟨_, rfl⟩ (takes_any 15 _ (by decide))) | (go_at_call 89; exact quiet_at ⟨_, rfl⟩ (pushes_any 15 _ (by decide)))))
  go_wp2_with fail
  refine (cells_load s inp n bb bF cF base (k + 1) _ _ _ ((HM1.out _).drewN _) (by show stk.length ≤ 100; omega) (by show 0 < stk.length; omega) (by exact hx) (by exact hcc)).mono ?_
  rintro e w1 ⟨rfl, ⟨L1, hM1⟩, h1⟩
  have hK1 := ((HK1.out _).drewN _).trans h1
  dsimp only at hM1
  clear h1
  have k32' := hM1.k32
  have k5' := hM1.k5
  have z5' := hM1.bx.frz 5
  dsimp only at k5'
  have HP : Hid (∀ q, StepPost s inp n bb bF cF base ⟨f, a, pos, stk, cel, cal, edg⟩ k w ((w1.setCell ⟨bb, 5, none⟩ (.int .i64 ((a : Int) + ((1 : Nat) : Int)))).drewN q) (.returned (.tuple #[]))) := fun q => by
    have h := hM1.setAt (a + 1)
    rw [cast_add] at h
    exact step_go HS.out hK1 ⟨rfl, ⟨_, h.drewN q⟩, ((Kx.refl base bb w1).set _ _).drewN q⟩
  clear hM1
  go_wp2
  go_region_with (go_at_call 98; refine (size_any 15 _ (by decide) (by decide)).mono ?_; rintro e w' ⟨rfl, rfl⟩)
  all_goals
    go_wp2
    go_end0
    first
      | (rw [wrap1 a (by omega)]; exact HP.out 1)
      | exact HP.out 1

set_option maxHeartbeats 6400000 in
set_option maxRecDepth 100000 in
theorem step_16b (s inp : ByteArray) (n bb bF cF base k : Nat) (m : Im.St) (L : Nat → Value) (w : World) (hM : Ms s inp n bb bF cF base m k L w) (hI : Inv s inp n m) (hk : k ≤ 100000) (hop : Im.bt s m.at_ = 16) (hT : ¬ m.stk.length < 2) (hO : ¬ 16 < m.stk.length - 2 + 0) (hx : Im.top m.stk < 16) :
    Calls Tryz.prog 57 #[.pointer (some ⟨bb, 0, none⟩)] w fun e w' => StepPost s inp n bb bF cF base m k w w' e := by
  have HS : Hid (Im.stepP s inp m = ({ m with stk := m.stk.take (m.stk.length - 2), cel := Im.upc m.cel (Im.top m.stk) (Im.snd m.stk), at_ := m.at_ + 1 }, 0)) := by
    show Im.stepP s inp m = _
    unfold Im.stepP
    rw [hop]
    rw [if_neg (show ¬ m.stk.length < Im.tk 16 from hT), if_neg (show ¬ 16 < m.stk.length - Im.tk 16 + Im.psh 16 from hO)]
    simp [show ¬ 16 ≤ Im.top m.stk by omega]
  have k0 := hM.k0
  have k5 := hM.k5
  have k30 := hM.k30
  have z30 := hM.bx.frz 30
  have ha := hI.ha
  have hs := hI.hs
  have hl := hI.hl
  have hcl := hI.hcl
  have hsz := hI.hz
  rw [hop] at hsz

  obtain ⟨ao, cap, hv6, hnc, hcm, -⟩ := owns_shape hM.rs
  have c6 := hM.bx.cell 6 (by omega)
  rw [hv6] at c6
  have hb := (Im.bt_eq s m.at_ ha).trans hop
  have HM1 : Hid (∀ q, Ms s inp n bb bF cF base m (k + 1) (updV L 30 (.int .i64 (k + 1 : Nat))) ((w.drewN q).setCell ⟨bb, 30, none⟩ (.int .i64 ((k : Int) + 1)))) := fun q => by
    have := (hM.drewN q).setSteps (k + 1)
    rw [cast_add] at this
    exact this
  have HK1 : Hid (∀ q, Kx base bb w ((w.drewN q).setCell ⟨bb, 30, none⟩ (.int .i64 ((k : Int) + 1)))) := fun q => ((Kx.refl base bb w).drewN q).set _ _
  clear hM hI hv6 hop
  obtain ⟨f, a, pos, stk, cel, cal, edg⟩ := m
  dsimp only at *
  have ht : Im.tk 16 = 2 := rfl
  have hp : Im.psh 16 = 0 := rfl
  have hz : Im.sz 16 = 1 := rfl
  rw [hz] at hsz
  go_enter Tryz.func57, Tryz.ntmps57
  go_wp2
  go_quiet (fail)
  go_wp2
  go_quiet ((go_at_call 87; exact quiet_at ⟨_, rfl⟩ (takes_any 16 _ (by decide))))
  go_wp2
  go_quiet ((first | (go_at_call 87; exact quiet_at ⟨_, rfl⟩ (takes_any 16 _ (by decide))) | (go_at_call 89; exact quiet_at ⟨_, rfl⟩ (pushes_any 16 _ (by decide)))))
  go_wp2_with fail
  refine (cells_store s inp n bb bF cF base (k + 1) _ _ _ ((HM1.out _).drewN _) (by show stk.length ≤ 100; omega) (by show 0 < stk.length; omega) (by show 2 ≤ stk.length; omega) (by exact hx)).mono ?_
  rintro e w1 ⟨rfl, ⟨L1, hM1⟩, h1⟩
  have hK1 := ((HK1.out _).drewN _).trans h1
  dsimp only at hM1
  clear h1
  have k32' := hM1.k32
  have k5' := hM1.k5
  have z5' := hM1.bx.frz 5
  dsimp only at k5'
  have HP : Hid (∀ q, StepPost s inp n bb bF cF base ⟨f, a, pos, stk, cel, cal, edg⟩ k w ((w1.setCell ⟨bb, 5, none⟩ (.int .i64 ((a : Int) + ((1 : Nat) : Int)))).drewN q) (.returned (.tuple #[]))) := fun q => by
    have h := hM1.setAt (a + 1)
    rw [cast_add] at h
    exact step_go HS.out hK1 ⟨rfl, ⟨_, h.drewN q⟩, ((Kx.refl base bb w1).set _ _).drewN q⟩
  clear hM1
  go_wp2
  go_region_with (go_at_call 98; refine (size_any 16 _ (by decide) (by decide)).mono ?_; rintro e w' ⟨rfl, rfl⟩)
  all_goals
    go_wp2
    go_end0
    first
      | (rw [wrap1 a (by omega)]; exact HP.out 1)
      | exact HP.out 1

end Go.Proofs.YtjhjkdcophcgaaaGreatDoor
