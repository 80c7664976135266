/-
  RefYC, RefYE, RefZA, RefZB, RefZC: THESE TEXTS, JOINED. By the verifier of the loop 'triage'.
-/
import Derived.Test.YtbmaiioecnmopaaGreatDoorJ12
import Derived.Test.YtbmaiioecnmopaaGreatDoorJ13
import Derived.Test.YtbmaiioecnmopaaGreatDoorJ14
import Derived.Test.YtbmaiioecnmopaaGreatDoorJ11
import Derived.Test.YtbmaiioecnmopaaGreatDoorJ07
/-
  THE DOCUMENT's SIDE (package triageref): Step, op by op (laid by wip/steps.py). By the verifier of the loop 'triage'.
-/
namespace Go.Proofs.YtbmaiioecnmopaaGreatDoor
open Go.RowKit

set_option maxHeartbeats 6400000 in
set_option maxRecDepth 100000 in
theorem step_15a (s inp : ByteArray) (n bb bF cF base k : Nat) (m : Im.St) (L : Nat → Value) (w : World) (hM : Ms s inp n bb bF cF base m k L w) (hI : Inv s inp n m) (hk : k ≤ 100000) (hop : Im.bt s m.at_ = 15) (hT : ¬ m.stk.length < 1) (hO : ¬ 16 < m.stk.length - 1 + 1) (hx : 16 ≤ Im.top m.stk) :
    Calls Tryz.prog 57 #[.pointer (some ⟨bb, 0, none⟩)] w fun e w' => StepPost s inp n bb bF cF base m k w w' e := by
  have HS : Hid (Im.stepP s inp m = (m, 4)) := by
    show Im.stepP s inp m = _
    unfold Im.stepP
    rw [hop]
    rw [if_neg (show ¬ m.stk.length < Im.tk 15 from hT), if_neg (show ¬ 16 < m.stk.length - Im.tk 15 + Im.psh 15 from hO)]
    simp [hx]
  have k0 := hM.k0
  have k5 := hM.k5
  have k30 := hM.k30
  have z30 := hM.bx.frz 30
  have ha := hI.ha
  have hs := hI.hs
  have hl := hI.hl
  have hcl := hI.hcl
  have hsz := hI.hz
  rw [hop] at hsz

  obtain ⟨ao, cap, hv6, hnc, hcm, -⟩ := owns_shape hM.rs
  have c6 := hM.bx.cell 6 (by omega)
  rw [hv6] at c6
  have hb := (Im.bt_eq s m.at_ ha).trans hop
  have HM1 : Hid (∀ q, Ms s inp n bb bF cF base m (k + 1) (updV L 30 (.int .i64 (k + 1 : Nat))) ((w.drewN q).setCell ⟨bb, 30, none⟩ (.int .i64 ((k : Int) + 1)))) := fun q => by
    have := (hM.drewN q).setSteps (k + 1)
    rw [cast_add] at this
    exact this
  have HK1 : Hid (∀ q, Kx base bb w ((w.drewN q).setCell ⟨bb, 30, none⟩ (.int .i64 ((k : Int) + 1)))) := fun q => ((Kx.refl base bb w).drewN q).set _ _
  clear hM hI hv6 hop
  obtain ⟨f, a, pos, stk, cel, cal, edg⟩ := m
  dsimp only at *
  have ht : Im.tk 15 = 1 := rfl
  have hp : Im.psh 15 = 1 := rfl
  have hz : Im.sz 15 = 1 := rfl
  rw [hz] at hsz
  go_enter Tryz.func57, Tryz.ntmps57
  go_wp2
  go_quiet (fail)
  go_wp2
  go_quiet ((go_at_call 87; exact quiet_at ⟨_, rfl⟩ (takes_any 15 _ (by decide))))
  go_wp2
  go_quiet ((first | (go_at_call 87; exact quiet_at ⟨_, rfl⟩ (takes_any 15 _ (by decide))) | (go_at_call 89; exact quiet_at ⟨_, rfl⟩ (pushes_any 15 _ (by decide)))))
  go_wp2_with fail
  refine (cells_wild15 s inp n bb bF cF base (k + 1) _ _ _ ((HM1.out _).drewN _) (by show stk.length ≤ 100; omega) (by show 0 < stk.length; omega) (by show cal.length ≤ 100; omega) (by exact hx)).mono ?_
  rintro e w1 h1
  have he := h1.1
  have HP : Hid (StepPost s inp n bb bF cF base ⟨f, a, pos, stk, cel, cal, edg⟩ k w w1 e) := step_fault HS.out (by decide) (by decide) ((HK1.out _).drewN _) h1
  obtain ⟨-, ⟨L1, hD⟩, -⟩ := h1
  have k32' : w1.cell? ⟨bb, 32, none⟩ = some (.bool true) := (hD.bx.cell 32 (by omega)).trans (by rw [hD.l32])
  subst he
  clear hD
  go_wp2
  go_end0
  exact HP.out

set_option maxHeartbeats 6400000 in
set_option maxRecDepth 100000 in
theorem step_16a (s inp : ByteArray) (n bb bF cF base k : Nat) (m : Im.St) (L : Nat → Value) (w : World) (hM : Ms s inp n bb bF cF base m k L w) (hI : Inv s inp n m) (hk : k ≤ 100000) (hop : Im.bt s m.at_ = 16) (hT : ¬ m.stk.length < 2) (hO : ¬ 16 < m.stk.length - 2 + 0) (hx : 16 ≤ Im.top m.stk) :
    Calls Tryz.prog 57 #[.pointer (some ⟨bb, 0, none⟩)] w fun e w' => StepPost s inp n bb bF cF base m k w w' e := by
  have HS : Hid (Im.stepP s inp m = (m, 4)) := by
    show Im.stepP s inp m = _
    unfold Im.stepP
    rw [hop]
    rw [if_neg (show ¬ m.stk.length < Im.tk 16 from hT), if_neg (show ¬ 16 < m.stk.length - Im.tk 16 + Im.psh 16 from hO)]
    simp [hx]
  have k0 := hM.k0
  have k5 := hM.k5
  have k30 := hM.k30
  have z30 := hM.bx.frz 30
  have ha := hI.ha
  have hs := hI.hs
  have hl := hI.hl
  have hcl := hI.hcl
  have hsz := hI.hz
  rw [hop] at hsz

  obtain ⟨ao, cap, hv6, hnc, hcm, -⟩ := owns_shape hM.rs
  have c6 := hM.bx.cell 6 (by omega)
  rw [hv6] at c6
  have hb := (Im.bt_eq s m.at_ ha).trans hop
  have HM1 : Hid (∀ q, Ms s inp n bb bF cF base m (k + 1) (updV L 30 (.int .i64 (k + 1 : Nat))) ((w.drewN q).setCell ⟨bb, 30, none⟩ (.int .i64 ((k : Int) + 1)))) := fun q => by
    have := (hM.drewN q).setSteps (k + 1)
    rw [cast_add] at this
    exact this
  have HK1 : Hid (∀ q, Kx base bb w ((w.drewN q).setCell ⟨bb, 30, none⟩ (.int .i64 ((k : Int) + 1)))) := fun q => ((Kx.refl base bb w).drewN q).set _ _
  clear hM hI hv6 hop
  obtain ⟨f, a, pos, stk, cel, cal, edg⟩ := m
  dsimp only at *
  have ht : Im.tk 16 = 2 := rfl
  have hp : Im.psh 16 = 0 := rfl
  have hz : Im.sz 16 = 1 := rfl
  rw [hz] at hsz
  go_enter Tryz.func57, Tryz.ntmps57
  go_wp2
  go_quiet (fail)
  go_wp2
  go_quiet ((go_at_call 87; exact quiet_at ⟨_, rfl⟩ (takes_any 16 _ (by decide))))
  go_wp2
  go_quiet ((first | (go_at_call 87; exact quiet_at ⟨_, rfl⟩ (takes_any 16 _ (by decide))) | (go_at_call 89; exact quiet_at ⟨_, rfl⟩ (pushes_any 16 _ (by decide)))))
  go_wp2_with fail
  refine (cells_wild16 s inp n bb bF cF base (k + 1) _ _ _ ((HM1.out _).drewN _) (by show stk.length ≤ 100; omega) (by show 0 < stk.length; omega) (by show cal.length ≤ 100; omega) (by exact hx)).mono ?_
  rintro e w1 h1
  have he := h1.1
  have HP : Hid (StepPost s inp n bb bF cF base ⟨f, a, pos, stk, cel, cal, edg⟩ k w w1 e) := step_fault HS.out (by decide) (by decide) ((HK1.out _).drewN _) h1
  obtain ⟨-, ⟨L1, hD⟩, -⟩ := h1
  have k32' : w1.cell? ⟨bb, 32, none⟩ = some (.bool true) := (hD.bx.cell 32 (by omega)).trans (by rw [hD.l32])
  subst he
  clear hD
  go_wp2
  go_end0
  exact HP.out

set_option maxHeartbeats 6400000 in
set_option maxRecDepth 100000 in
theorem step_15b (s inp : ByteArray) (n bb bF cF base k : Nat) (m : Im.St) (L : Nat → Value) (w : World) (hM : Ms s inp n bb bF cF base m k L w) (hI : Inv s inp n m) (hk : k ≤ 100000) (hop : Im.bt s m.at_ = 15) (hT : ¬ m.stk.length < 1) (hO : ¬ 16 < m.stk.length - 1 + 1) (hx : Im.top m.stk < 16) :
    Calls Tryz.prog 57 #[.pointer (some ⟨bb, 0, none⟩)] w fun e w' => StepPost s inp n bb bF cF base m k w w' e := by
  have HS : Hid (Im.stepP s inp m = ({ m with stk := m.stk.take (m.stk.length - 1) ++ [m.cel (Im.top m.stk)], at_ := m.at_ + 1 }, 0)) := by
    show Im.stepP s inp m = _
    unfold Im.stepP
    rw [hop]
    rw [if_neg (show ¬ m.stk.length < Im.tk 15 from hT), if_neg (show ¬ 16 < m.stk.length - Im.tk 15 + Im.psh 15 from hO)]
    simp [show ¬ 16 ≤ Im.top m.stk by omega]
  have k0 := hM.k0
  have k5 := hM.k5
  have k30 := hM.k30
  have z30 := hM.bx.frz 30
  have ha := hI.ha
  have hs := hI.hs
  have hl := hI.hl
  have hcl := hI.hcl
  have hsz := hI.hz
  rw [hop] at hsz
  have hcc := hI.hc
  obtain ⟨ao, cap, hv6, hnc, hcm, -⟩ := owns_shape hM.rs
  have c6 := hM.bx.cell 6 (by omega)
  rw [hv6] at c6
  have hb := (Im.bt_eq s m.at_ ha).trans hop
  have HM1 : Hid (∀ q, Ms s inp n bb bF cF base m (k + 1) (updV L 30 (.int .i64 (k + 1 : Nat))) ((w.drewN q).setCell ⟨bb, 30, none⟩ (.int .i64 ((k : Int) + 1)))) := fun q => by
    have := (hM.drewN q).setSteps (k + 1)
    rw [cast_add] at this
    exact this
  have HK1 : Hid (∀ q, Kx base bb w ((w.drewN q).setCell ⟨bb, 30, none⟩ (.int .i64 ((k : Int) + 1)))) := fun q => ((Kx.refl base bb w).drewN q).set _ _
  clear hM hI hv6 hop
  obtain ⟨f, a, pos, stk, cel, cal, edg⟩ := m
  dsimp only at *
  have ht : Im.tk 15 = 1 := rfl
  have hp : Im.psh 15 = 1 := rfl
  have hz : Im.sz 15 = 1 := rfl
  rw [hz] at hsz
  go_enter Tryz.func57, Tryz.ntmps57
  go_wp2
  go_quiet (fail)
  go_wp2
  go_quiet ((go_at_call 87; exact quiet_at ⟨_, rfl⟩ (takes_any 15 _ (by decide))))
  go_wp2
  go_quiet ((first | (go_at_call 87; exact quiet_at ⟨_, rfl⟩ (takes_any 15 _ (by decide))) | (go_at_call 89; exact quiet_at ⟨_, rfl⟩ (pushes_any 15 _ (by decide)))))
  go_wp2_with fail
  refine (cells_load s inp n bb bF cF base (k + 1) _ _ _ ((HM1.out _).drewN _) (by show stk.length ≤ 100; omega) (by show 0 < stk.length; omega) (by exact hx) (by exact hcc)).mono ?_
  rintro e w1 ⟨rfl, ⟨L1, hM1⟩, h1⟩
  have hK1 := ((HK1.out _).drewN _).trans h1
  dsimp only at hM1
  clear h1
  have k32' := hM1.k32
  have k5' := hM1.k5
  have z5' := hM1.bx.frz 5
  dsimp only at k5'
  have HP : Hid (∀ q, StepPost s inp n bb bF cF base ⟨f, a, pos, stk, cel, cal, edg⟩ k w ((w1.setCell ⟨bb, 5, none⟩ (.int .i64 ((a : Int) + ((1 : Nat) : Int)))).drewN q) (.returned (.tuple #[]))) := fun q => by
    have h := hM1.setAt (a + 1)
    rw [cast_add] at h
    exact step_go HS.out hK1 ⟨rfl, ⟨_, h.drewN q⟩, ((Kx.refl base bb w1).set _ _).drewN q⟩
  clear hM1
  go_wp2
  go_region_with (go_at_call 98; refine (size_any 15 _ (by decide) (by decide)).mono ?_; rintro e w' ⟨rfl, rfl⟩)
  all_goals
    go_wp2
    go_end0
    first
      | (rw [wrap1 a (by omega)]; exact HP.out 1)
      | exact HP.out 1

set_option maxHeartbeats 6400000 in
set_option maxRecDepth 100000 in
theorem step_16b (s inp : ByteArray) (n bb bF cF base k : Nat) (m : Im.St) (L : Nat → Value) (w : World) (hM : Ms s inp n bb bF cF base m k L w) (hI : Inv s inp n m) (hk : k ≤ 100000) (hop : Im.bt s m.at_ = 16) (hT : ¬ m.stk.length < 2) (hO : ¬ 16 < m.stk.length - 2 + 0) (hx : Im.top m.stk < 16) :
    Calls Tryz.prog 57 #[.pointer (some ⟨bb, 0, none⟩)] w fun e w' => StepPost s inp n bb bF cF base m k w w' e := by
  have HS : Hid (Im.stepP s inp m = ({ m with stk := m.stk.take (m.stk.length - 2), cel := Im.upc m.cel (Im.top m.stk) (Im.snd m.stk), at_ := m.at_ + 1 }, 0)) := by
    show Im.stepP s inp m = _
    unfold Im.stepP
    rw [hop]
    rw [if_neg (show ¬ m.stk.length < Im.tk 16 from hT), if_neg (show ¬ 16 < m.stk.length - Im.tk 16 + Im.psh 16 from hO)]
    simp [show ¬ 16 ≤ Im.top m.stk by omega]
  have k0 := hM.k0
  have k5 := hM.k5
  have k30 := hM.k30
  have z30 := hM.bx.frz 30
  have ha := hI.ha
  have hs := hI.hs
  have hl := hI.hl
  have hcl := hI.hcl
  have hsz := hI.hz
  rw [hop] at hsz

  obtain ⟨ao, cap, hv6, hnc, hcm, -⟩ := owns_shape hM.rs
  have c6 := hM.bx.cell 6 (by omega)
  rw [hv6] at c6
  have hb := (Im.bt_eq s m.at_ ha).trans hop
  have HM1 : Hid (∀ q, Ms s inp n bb bF cF base m (k + 1) (updV L 30 (.int .i64 (k + 1 : Nat))) ((w.drewN q).setCell ⟨bb, 30, none⟩ (.int .i64 ((k : Int) + 1)))) := fun q => by
    have := (hM.drewN q).setSteps (k + 1)
    rw [cast_add] at this
    exact this
  have HK1 : Hid (∀ q, Kx base bb w ((w.drewN q).setCell ⟨bb, 30, none⟩ (.int .i64 ((k : Int) + 1)))) := fun q => ((Kx.refl base bb w).drewN q).set _ _
  clear hM hI hv6 hop
  obtain ⟨f, a, pos, stk, cel, cal, edg⟩ := m
  dsimp only at *
  have ht : Im.tk 16 = 2 := rfl
  have hp : Im.psh 16 = 0 := rfl
  have hz : Im.sz 16 = 1 := rfl
  rw [hz] at hsz
  go_enter Tryz.func57, Tryz.ntmps57
  go_wp2
  go_quiet (fail)
  go_wp2
  go_quiet ((go_at_call 87; exact quiet_at ⟨_, rfl⟩ (takes_any 16 _ (by decide))))
  go_wp2
  go_quiet ((first | (go_at_call 87; exact quiet_at ⟨_, rfl⟩ (takes_any 16 _ (by decide))) | (go_at_call 89; exact quiet_at ⟨_, rfl⟩ (pushes_any 16 _ (by decide)))))
  go_wp2_with fail
  refine (cells_store s inp n bb bF cF base (k + 1) _ _ _ ((HM1.out _).drewN _) (by show stk.length ≤ 100; omega) (by show 0 < stk.length; omega) (by show 2 ≤ stk.length; omega) (by exact hx)).mono ?_
  rintro e w1 ⟨rfl, ⟨L1, hM1⟩, h1⟩
  have hK1 := ((HK1.out _).drewN _).trans h1
  dsimp only at hM1
  clear h1
  have k32' := hM1.k32
  have k5' := hM1.k5
  have z5' := hM1.bx.frz 5
  dsimp only at k5'
  have HP : Hid (∀ q, StepPost s inp n bb bF cF base ⟨f, a, pos, stk, cel, cal, edg⟩ k w ((w1.setCell ⟨bb, 5, none⟩ (.int .i64 ((a : Int) + ((1 : Nat) : Int)))).drewN q) (.returned (.tuple #[]))) := fun q => by
    have h := hM1.setAt (a + 1)
    rw [cast_add] at h
    exact step_go HS.out hK1 ⟨rfl, ⟨_, h.drewN q⟩, ((Kx.refl base bb w1).set _ _).drewN q⟩
  clear hM1
  go_wp2
  go_region_with (go_at_call 98; refine (size_any 16 _ (by decide) (by decide)).mono ?_; rintro e w' ⟨rfl, rfl⟩)
  all_goals
    go_wp2
    go_end0
    first
      | (rw [wrap1 a (by omega)]; exact HP.out 1)
      | exact HP.out 1

end Go.Proofs.YtbmaiioecnmopaaGreatDoor

/-
  THE DOCUMENT's SIDE (package triageref): Step, op by op (laid by wip/steps.py). By the verifier of the loop 'triage'.
-/
namespace Go.Proofs.YtbmaiioecnmopaaGreatDoor
open Go.RowKit

theorem call_int_go (s inp : ByteArray) (n bb bF cF base k q : Nat) (x : Int) (m : Im.St) (L : Nat → Value) (w : World) (hx : x = ((q : Nat) : Int)) (hM : Ms s inp n bb bF cF base m k L w) (hc : m.cal.length < 8) (ha : m.at_ < 200) (hq : q < n) :
    Calls Tryz.prog 92 #[.pointer (some ⟨bb, 0, none⟩), .int .i64 x] w fun e w' => GoPost s inp n bb bF cF base { m with cal := m.cal ++ [(m.fn, m.at_)], fn := q, at_ := Im.st s q, edg := Im.up m.edg (2 * m.at_ + 1) } k w w' e := by
  subst hx
  exact call_go s inp n bb bF cF base k q m L w hM hc ha hq
theorem call_int_deep (s inp : ByteArray) (n bb bF cF base k q : Nat) (x : Int) (m : Im.St) (L : Nat → Value) (w : World) (hx : x = ((q : Nat) : Int)) (hM : Ms s inp n bb bF cF base m k L w) (hc : 8 ≤ m.cal.length) (hc2 : m.cal.length ≤ 100) :
    Calls Tryz.prog 92 #[.pointer (some ⟨bb, 0, none⟩), .int .i64 x] w fun e w' => FaultPost bb base 6 k m w w' e := by
  subst hx
  exact call_deep s inp n bb bF cF base k q m L w hM hc hc2

set_option maxHeartbeats 6400000 in
set_option maxRecDepth 100000 in
theorem step_12a (s inp : ByteArray) (n bb bF cF base k : Nat) (m : Im.St) (L : Nat → Value) (w : World) (hM : Ms s inp n bb bF cF base m k L w) (hI : Inv s inp n m) (hk : k ≤ 100000) (hop : Im.bt s m.at_ = 12) (hT : ¬ m.stk.length < 0) (hO : ¬ 16 < m.stk.length - 0 + 0) (hx : 8 ≤ m.cal.length) :
    Calls Tryz.prog 57 #[.pointer (some ⟨bb, 0, none⟩)] w fun e w' => StepPost s inp n bb bF cF base m k w w' e := by
  have HS : Hid (Im.stepP s inp m = (m, 6)) := by
    show Im.stepP s inp m = _
    unfold Im.stepP
    rw [hop]
    rw [if_neg (show ¬ m.stk.length < Im.tk 12 from hT), if_neg (show ¬ 16 < m.stk.length - Im.tk 12 + Im.psh 12 from hO)]
    simp [hx]
  have k0 := hM.k0
  have k5 := hM.k5
  have k30 := hM.k30
  have z30 := hM.bx.frz 30
  have ha := hI.ha
  have hs := hI.hs
  have hl := hI.hl
  have hcl := hI.hcl
  have hsz := hI.hz
  rw [hop] at hsz
  have hb1 := Im.bt_eq s (m.at_ + 1) (by have h : Im.sz 12 = 2 := rfl; rw [h] at hsz; omega)
  have hb256 := Im.bt_lt s (m.at_ + 1)
  have ha1 : m.at_ + 1 < s.size := by have h : Im.sz 12 = 2 := rfl; rw [h] at hsz; omega

  obtain ⟨ao, cap, hv6, hnc, hcm, -⟩ := owns_shape hM.rs
  have c6 := hM.bx.cell 6 (by omega)
  rw [hv6] at c6
  have hb := (Im.bt_eq s m.at_ ha).trans hop
  have HM1 : Hid (∀ q, Ms s inp n bb bF cF base m (k + 1) (updV L 30 (.int .i64 (k + 1 : Nat))) ((w.drewN q).setCell ⟨bb, 30, none⟩ (.int .i64 ((k : Int) + 1)))) := fun q => by
    have := (hM.drewN q).setSteps (k + 1)
    rw [cast_add] at this
    exact this
  have HK1 : Hid (∀ q, Kx base bb w ((w.drewN q).setCell ⟨bb, 30, none⟩ (.int .i64 ((k : Int) + 1)))) := fun q => ((Kx.refl base bb w).drewN q).set _ _
  clear hM hI hv6 hop
  obtain ⟨f, a, pos, stk, cel, cal, edg⟩ := m
  dsimp only at *
  generalize Im.bt s (a + 1) = b at *
  have ha2 : (a : Int) + 1 < (s.size : Int) := by omega
  have ha3 : a + 1 < s.size := by omega
  have hwr := wrap1 a (by omega)
  have ht : Im.tk 12 = 0 := rfl
  have hp : Im.psh 12 = 0 := rfl
  have hz : Im.sz 12 = 2 := rfl
  rw [hz] at hsz
  go_enter Tryz.func57, Tryz.ntmps57
  go_wp2
  go_quiet (fail)
  go_wp2
  go_quiet ((go_at_call 87; exact quiet_at ⟨_, rfl⟩ (takes_any 12 _ (by decide))))
  go_wp2
  go_quiet ((first | (go_at_call 87; exact quiet_at ⟨_, rfl⟩ (takes_any 12 _ (by decide))) | (go_at_call 89; exact quiet_at ⟨_, rfl⟩ (pushes_any 12 _ (by decide)))))
  go_wp2
  go_region_with (go_at_call 92; refine (call_int_deep s inp n bb bF cF base (k + 1) b _ ⟨f, a, pos, stk, cel, cal, edg⟩ (updV L 30 (.int .i64 (k + 1 : Nat))) _ ?_ ?_ ?_ ?_ ).mono ?_; (rw [wrap_small _ hb256]); exact ((HM1.out _).drewN _); exact hx; (show cal.length ≤ 100; omega); rintro e w1 h1; have he := h1.1; subst he)
  all_goals
    have HP : Hid (StepPost s inp n bb bF cF base ⟨f, a, pos, stk, cel, cal, edg⟩ k w w1 (.returned (.tuple #[]))) := step_fault HS.out (by decide) (by decide) ((HK1.out _).drewN _) h1
    clear h1
    go_wp2
    first
      | (go_end0; exact HP.out)
      | exact bodyPost_ret (v := .tuple #[]) (by simp [results, Tryz.results57, go_sem]) rfl HP.out

set_option maxHeartbeats 6400000 in
set_option maxRecDepth 100000 in
theorem step_12b (s inp : ByteArray) (n bb bF cF base k : Nat) (m : Im.St) (L : Nat → Value) (w : World) (hM : Ms s inp n bb bF cF base m k L w) (hI : Inv s inp n m) (hk : k ≤ 100000) (hop : Im.bt s m.at_ = 12) (hT : ¬ m.stk.length < 0) (hO : ¬ 16 < m.stk.length - 0 + 0) (hx : m.cal.length < 8) :
    Calls Tryz.prog 57 #[.pointer (some ⟨bb, 0, none⟩)] w fun e w' => StepPost s inp n bb bF cF base m k w w' e := by
  have HS : Hid (Im.stepP s inp m = ({ m with cal := m.cal ++ [(m.fn, m.at_)], fn := Im.bt s (m.at_ + 1), at_ := Im.st s (Im.bt s (m.at_ + 1)), edg := Im.up m.edg (2 * m.at_ + 1) }, 0)) := by
    show Im.stepP s inp m = _
    unfold Im.stepP
    rw [hop]
    rw [if_neg (show ¬ m.stk.length < Im.tk 12 from hT), if_neg (show ¬ 16 < m.stk.length - Im.tk 12 + Im.psh 12 from hO)]
    simp [show ¬ 8 ≤ m.cal.length by omega]
  have k0 := hM.k0
  have k5 := hM.k5
  have k30 := hM.k30
  have z30 := hM.bx.frz 30
  have ha := hI.ha
  have hs := hI.hs
  have hl := hI.hl
  have hcl := hI.hcl
  have hsz := hI.hz
  rw [hop] at hsz
  have hb1 := Im.bt_eq s (m.at_ + 1) (by have h : Im.sz 12 = 2 := rfl; rw [h] at hsz; omega)
  have hb256 := Im.bt_lt s (m.at_ + 1)
  have ha1 : m.at_ + 1 < s.size := by have h : Im.sz 12 = 2 := rfl; rw [h] at hsz; omega
  have hcn := hI.hcall hop
  obtain ⟨ao, cap, hv6, hnc, hcm, -⟩ := owns_shape hM.rs
  have c6 := hM.bx.cell 6 (by omega)
  rw [hv6] at c6
  have hb := (Im.bt_eq s m.at_ ha).trans hop
  have HM1 : Hid (∀ q, Ms s inp n bb bF cF base m (k + 1) (updV L 30 (.int .i64 (k + 1 : Nat))) ((w.drewN q).setCell ⟨bb, 30, none⟩ (.int .i64 ((k : Int) + 1)))) := fun q => by
    have := (hM.drewN q).setSteps (k + 1)
    rw [cast_add] at this
    exact this
  have HK1 : Hid (∀ q, Kx base bb w ((w.drewN q).setCell ⟨bb, 30, none⟩ (.int .i64 ((k : Int) + 1)))) := fun q => ((Kx.refl base bb w).drewN q).set _ _
  clear hM hI hv6 hop
  obtain ⟨f, a, pos, stk, cel, cal, edg⟩ := m
  dsimp only at *
  generalize Im.bt s (a + 1) = b at *
  have ha2 : (a : Int) + 1 < (s.size : Int) := by omega
  have ha3 : a + 1 < s.size := by omega
  have hwr := wrap1 a (by omega)
  have ht : Im.tk 12 = 0 := rfl
  have hp : Im.psh 12 = 0 := rfl
  have hz : Im.sz 12 = 2 := rfl
  rw [hz] at hsz
  go_enter Tryz.func57, Tryz.ntmps57
  go_wp2
  go_quiet (fail)
  go_wp2
  go_quiet ((go_at_call 87; exact quiet_at ⟨_, rfl⟩ (takes_any 12 _ (by decide))))
  go_wp2
  go_quiet ((first | (go_at_call 87; exact quiet_at ⟨_, rfl⟩ (takes_any 12 _ (by decide))) | (go_at_call 89; exact quiet_at ⟨_, rfl⟩ (pushes_any 12 _ (by decide)))))
  go_wp2
  go_region_with (go_at_call 92; refine (call_int_go s inp n bb bF cF base (k + 1) b _ ⟨f, a, pos, stk, cel, cal, edg⟩ (updV L 30 (.int .i64 (k + 1 : Nat))) _ ?_ ?_ ?_ ?_ ?_ ).mono ?_; (rw [wrap_small _ hb256]); exact ((HM1.out _).drewN _); exact hx; (show a < 200; omega); exact hcn; rintro e w1 h1; have he := h1.1; subst he)
  all_goals
    have HP : Hid (StepPost s inp n bb bF cF base ⟨f, a, pos, stk, cel, cal, edg⟩ k w w1 (.returned (.tuple #[]))) := step_go HS.out ((HK1.out _).drewN _) h1
    clear h1
    go_wp2
    first
      | (go_end0; exact HP.out)
      | exact bodyPost_ret (v := .tuple #[]) (by simp [results, Tryz.results57, go_sem]) rfl HP.out

end Go.Proofs.YtbmaiioecnmopaaGreatDoor

/-
  THE DOCUMENT's SIDE (package triageref): Step: Under, Over; all ways together. By the verifier of the loop 'triage'.
-/
namespace Go.Proofs.YtbmaiioecnmopaaGreatDoor
open Go.RowKit

set_option maxHeartbeats 6400000 in
set_option maxRecDepth 100000 in
theorem step_under (s inp : ByteArray) (n bb bF cF base k : Nat) (m : Im.St) (L : Nat → Value) (w : World) (hM : Ms s inp n bb bF cF base m k L w) (hI : Inv s inp n m) (hk : k ≤ 100000) (hU : m.stk.length < Im.tk (Im.bt s m.at_)) :
    Calls Tryz.prog 57 #[.pointer (some ⟨bb, 0, none⟩)] w fun e w' => StepPost s inp n bb bF cF base m k w w' e := by
  have HS : Hid (Im.stepP s inp m = (m, 1)) := by
    show Im.stepP s inp m = _
    unfold Im.stepP
    rw [if_pos hU]
  have k0 := hM.k0
  have k5 := hM.k5
  have k30 := hM.k30
  have z30 := hM.bx.frz 30
  have ha := hI.ha
  have hs := hI.hs
  have hl := hI.hl
  have hcl := hI.hcl
  obtain ⟨ao, cap, hv6, hnc, hcm, -⟩ := owns_shape hM.rs
  have c6 := hM.bx.cell 6 (by omega)
  rw [hv6] at c6
  have hb := Im.bt_eq s m.at_ ha
  have hb256 := Im.bt_lt s m.at_
  have HM1 : Hid (∀ q, Ms s inp n bb bF cF base m (k + 1) (updV L 30 (.int .i64 (k + 1 : Nat))) ((w.drewN q).setCell ⟨bb, 30, none⟩ (.int .i64 ((k : Int) + 1)))) := fun q => by
    have := (hM.drewN q).setSteps (k + 1)
    rw [cast_add] at this
    exact this
  have HK1 : Hid (∀ q, Kx base bb w ((w.drewN q).setCell ⟨bb, 30, none⟩ (.int .i64 ((k : Int) + 1)))) := fun q => ((Kx.refl base bb w).drewN q).set _ _
  clear hM hI hv6
  obtain ⟨f, a, pos, stk, cel, cal, edg⟩ := m
  dsimp only at *
  generalize Im.bt s a = c at *
  go_enter Tryz.func57, Tryz.ntmps57
  go_wp2
  go_quiet (fail)
  go_wp2
  go_quiet ((go_at_call 87; exact quiet_at ⟨_, rfl⟩ (takes_any c _ hb256)))
  go_wp2_with fail
  refine (fault_any s inp n bb bF cF base (k + 1) 1 _ _ _ ((HM1.out _).drewN _) (by show cal.length ≤ 100; omega)).mono ?_
  rintro e w1 h1
  have he := h1.1
  have HP : Hid (StepPost s inp n bb bF cF base ⟨f, a, pos, stk, cel, cal, edg⟩ k w w1 e) := step_fault HS.out (by decide) (by decide) ((HK1.out _).drewN _) h1
  subst he
  clear h1
  go_wp2
  first
    | (go_end0; exact HP.out)
    | exact bodyPost_ret (v := .tuple #[]) (by simp [results, Tryz.results57, go_sem]) rfl HP.out

set_option maxHeartbeats 6400000 in
set_option maxRecDepth 100000 in
theorem step_over (s inp : ByteArray) (n bb bF cF base k : Nat) (m : Im.St) (L : Nat → Value) (w : World) (hM : Ms s inp n bb bF cF base m k L w) (hI : Inv s inp n m) (hk : k ≤ 100000) (hU : ¬ m.stk.length < Im.tk (Im.bt s m.at_)) (hO : 16 < m.stk.length - Im.tk (Im.bt s m.at_) + Im.psh (Im.bt s m.at_)) :
    Calls Tryz.prog 57 #[.pointer (some ⟨bb, 0, none⟩)] w fun e w' => StepPost s inp n bb bF cF base m k w w' e := by
  have HS : Hid (Im.stepP s inp m = (m, 2)) := by
    show Im.stepP s inp m = _
    unfold Im.stepP
    rw [if_neg hU, if_pos hO]
  have k0 := hM.k0
  have k5 := hM.k5
  have k30 := hM.k30
  have z30 := hM.bx.frz 30
  have ha := hI.ha
  have hs := hI.hs
  have hl := hI.hl
  have hcl := hI.hcl
  obtain ⟨ao, cap, hv6, hnc, hcm, -⟩ := owns_shape hM.rs
  have c6 := hM.bx.cell 6 (by omega)
  rw [hv6] at c6
  have hb := Im.bt_eq s m.at_ ha
  have hb256 := Im.bt_lt s m.at_
  have hpl : Im.psh (Im.bt s m.at_) ≤ 2 := by unfold Im.psh; split <;> (try split) <;> omega
  have htl : Im.tk (Im.bt s m.at_) ≤ 2 := by unfold Im.tk; split <;> (try split) <;> omega
  have HM1 : Hid (∀ q, Ms s inp n bb bF cF base m (k + 1) (updV L 30 (.int .i64 (k + 1 : Nat))) ((w.drewN q).setCell ⟨bb, 30, none⟩ (.int .i64 ((k : Int) + 1)))) := fun q => by
    have := (hM.drewN q).setSteps (k + 1)
    rw [cast_add] at this
    exact this
  have HK1 : Hid (∀ q, Kx base bb w ((w.drewN q).setCell ⟨bb, 30, none⟩ (.int .i64 ((k : Int) + 1)))) := fun q => ((Kx.refl base bb w).drewN q).set _ _
  clear hM hI hv6
  obtain ⟨f, a, pos, stk, cel, cal, edg⟩ := m
  dsimp only at *
  generalize Im.bt s a = c at *
  go_enter Tryz.func57, Tryz.ntmps57
  go_wp2
  go_quiet (fail)
  go_wp2
  go_quiet ((go_at_call 87; exact quiet_at ⟨_, rfl⟩ (takes_any c _ hb256)))
  go_wp2
  go_quiet ((first | (go_at_call 87; exact quiet_at ⟨_, rfl⟩ (takes_any c _ hb256)) | (go_at_call 89; exact quiet_at ⟨_, rfl⟩ (pushes_any c _ hb256))))
  go_wp2_with fail
  refine (fault_any s inp n bb bF cF base (k + 1) 2 _ _ _ ((HM1.out _).drewN _) (by show cal.length ≤ 100; omega)).mono ?_
  rintro e w1 h1
  have he := h1.1
  have HP : Hid (StepPost s inp n bb bF cF base ⟨f, a, pos, stk, cel, cal, edg⟩ k w w1 e) := step_fault HS.out (by decide) (by decide) ((HK1.out _).drewN _) h1
  subst he
  clear h1
  go_wp2
  first
    | (go_end0; exact HP.out)
    | exact bodyPost_ret (v := .tuple #[]) (by simp [results, Tryz.results57, go_sem]) rfl HP.out

/-- ONE STEP of the document's machine, whatever the op. -/
theorem step_any (s inp : ByteArray) (n bb bF cF base k : Nat) (m : Im.St) (L : Nat → Value) (w : World) (hM : Ms s inp n bb bF cF base m k L w) (hI : Inv s inp n m) (hk : k ≤ 100000) :
    Calls Tryz.prog 57 #[.pointer (some ⟨bb, 0, none⟩)] w fun e w' => StepPost s inp n bb bF cF base m k w w' e := by
  by_cases hU : m.stk.length < Im.tk (Im.bt s m.at_)
  · exact step_under s inp n bb bF cF base k m L w hM hI hk hU
  · by_cases hO : 16 < m.stk.length - Im.tk (Im.bt s m.at_) + Im.psh (Im.bt s m.at_)
    · exact step_over s inp n bb bF cF base k m L w hM hI hk hU hO
    · have h17 : Im.bt s m.at_ ≤ 17 := by
        have h1 := hI.h1
        unfold Im.sz at h1
        split at h1
        · omega
        · omega
      rcases (show Im.bt s m.at_ = 0 ∨ Im.bt s m.at_ = 1 ∨ Im.bt s m.at_ = 2 ∨ Im.bt s m.at_ = 3 ∨ Im.bt s m.at_ = 4 ∨ Im.bt s m.at_ = 5 ∨ Im.bt s m.at_ = 6 ∨ Im.bt s m.at_ = 7 ∨ Im.bt s m.at_ = 8 ∨ Im.bt s m.at_ = 9 ∨ Im.bt s m.at_ = 10 ∨ Im.bt s m.at_ = 11 ∨ Im.bt s m.at_ = 12 ∨ Im.bt s m.at_ = 13 ∨ Im.bt s m.at_ = 14 ∨ Im.bt s m.at_ = 15 ∨ Im.bt s m.at_ = 16 ∨ Im.bt s m.at_ = 17 by omega) with h | h | h | h | h | h | h | h | h | h | h | h | h | h | h | h | h | h
      all_goals rw [h] at hU hO
      · by_cases hx : m.cal.length = 0
        · exact step_0a s inp n bb bF cF base k m L w hM hI hk h hU hO hx
        · exact step_0b s inp n bb bF cF base k m L w hM hI hk h hU hO (by omega)
      · exact step_1 s inp n bb bF cF base k m L w hM hI hk h hU hO
      · exact step_2 s inp n bb bF cF base k m L w hM hI hk h hU hO
      · exact step_3 s inp n bb bF cF base k m L w hM hI hk h hU hO
      · exact step_4 s inp n bb bF cF base k m L w hM hI hk h hU hO
      · exact step_5 s inp n bb bF cF base k m L w hM hI hk h hU hO
      · exact step_6 s inp n bb bF cF base k m L w hM hI hk h hU hO
      · by_cases hx : Im.top m.stk = 0
        · exact step_7z s inp n bb bF cF base k m L w hM hI hk h hU hO hx
        · exact step_7 s inp n bb bF cF base k m L w hM hI hk h hU hO hx
      · exact step_8 s inp n bb bF cF base k m L w hM hI hk h hU hO
      · exact step_9 s inp n bb bF cF base k m L w hM hI hk h hU hO
      · exact step_10 s inp n bb bF cF base k m L w hM hI hk h hU hO
      · by_cases hx : Im.top m.stk = 0
        · exact step_11a s inp n bb bF cF base k m L w hM hI hk h hU hO hx
        · exact step_11b s inp n bb bF cF base k m L w hM hI hk h hU hO hx
      · by_cases hx : 8 ≤ m.cal.length
        · exact step_12a s inp n bb bF cF base k m L w hM hI hk h hU hO hx
        · exact step_12b s inp n bb bF cF base k m L w hM hI hk h hU hO (by omega)
      · by_cases hx : m.pos < inp.size
        · exact step_13a s inp n bb bF cF base k m L w hM hI hk h hU hO hx
        · exact step_13b s inp n bb bF cF base k m L w hM hI hk h hU hO hx
      · exact step_14 s inp n bb bF cF base k m L w hM hI hk h hU hO
      · by_cases hx : 16 ≤ Im.top m.stk
        · exact step_15a s inp n bb bF cF base k m L w hM hI hk h hU hO hx
        · exact step_15b s inp n bb bF cF base k m L w hM hI hk h hU hO (by omega)
      · by_cases hx : 16 ≤ Im.top m.stk
        · exact step_16a s inp n bb bF cF base k m L w hM hI hk h hU hO hx
        · exact step_16b s inp n bb bF cF base k m L w hM hI hk h hU hO (by omega)
      · exact step_17 s inp n bb bF cF base k m L w hM hI hk h
end Go.Proofs.YtbmaiioecnmopaaGreatDoor

/-
  THE DOCUMENT's SIDE (package triageref): Play. By the verifier of the loop 'triage'.
-/
namespace Go.Proofs.YtbmaiioecnmopaaGreatDoor
open Go.RowKit

theorem inv_of (s inp : ByteArray) (n : Nat) (m : Im.St) (ho : Im.Okay s n) (hi : inp.size ≤ 24) (hg : Im.Good s inp n m) : Inv s inp n m := by
  have hm := Im.fn_mem s m.fn m.at_ hg.ha
  have hst := ho.st m.fn hg.hf
  exact ⟨ho.hs, hi, hg.hf, by omega, by omega, hm.2.2.2, hg.hl, hg.hv, hg.hc, hg.hcl, fun c hc => by
    obtain ⟨h1, h2, _⟩ := hg.hcv c hc
    have h3 := Im.fn_mem s c.1 c.2 h2
    have h4 := ho.st c.1 h1
    have := ho.hs
    exact ⟨h1, by omega⟩, hg.hp, fun f hf => by have := ho.st f hf; have := ho.hs; omega, fun h => ho.call m.fn m.at_ hg.hf hg.ha h⟩

theorem rheap_new (w : World) (o : Obj) : (w.alloc o).heap[w.heap.size]? = some o := by
  show (w.heap.push o)[w.heap.size]? = some o
  simp
theorem rcell_of {w : World} {b o : Nat} {c : Array Value} {t : TypeId} {v : Value} (h : w.heap[b]? = some (.cells c t (0, 0))) (hv : c[o]? = some v) : w.cell? ⟨b, o, none⟩ = some v := by
  simp [World.cell?, h, hv]
theorem rfree_of {w : World} {b o : Nat} {c : Array Value} {t : TypeId} (h : w.heap[b]? = some (.cells c t (0, 0))) : w.frozen? ⟨b, o, none⟩ = false := by
  simp [World.frozen?, h]
/-- the machine's struct as Play lays it. -/
def box0 (s inp : ByteArray) (g n cF : Nat) : Array Value :=
  #[.string s, .slice (some ⟨g, 0, none⟩) n cF, .string inp, .int .i64 0, .int .i64 0, .int .i64 (Im.st s 0 : Nat), .slice none 0 0, .int .i64 0, .int .i64 0, .int .i64 0, .int .i64 0, .int .i64 0, .int .i64 0, .int .i64 0, .int .i64 0, .int .i64 0, .int .i64 0, .int .i64 0, .int .i64 0, .int .i64 0, .int .i64 0, .int .i64 0, .int .i64 0, .slice none 0 0, .int .i64 0, .int .i64 0, .int .i64 0, .int .i64 0, .slice none 0 0, .slice none 0 0, .int .i64 0, .int .i64 (-1), .bool false]
def L0 (s inp : ByteArray) (g n cF : Nat) (o : Nat) : Value := (box0 s inp g n cF)[o]?.getD (.bool false)
theorem el_none : Im.el (fun _ => false) = [] := by simp [Im.el]
theorem ms_start (s inp : ByteArray) (g n cF b : Nat) (w1 : World) (hh : w1.heap[b]? = some (.cells (box0 s inp g n cF) 138 (0, 0))) (hb : b + 1 = w1.heap.size) (hg : g < b) (hc : ∀ f, f < n → w1.cell? ⟨g, f * 2, none⟩ = some (.int .i64 (Im.st s f : Nat))) :
    Ms s inp n b g cF (b + 1) (Im.st0 s) 0 (L0 s inp g n cF) w1 := by
  constructor
  case bx =>
    refine ⟨fun o ho => rcell_of hh ?_, fun o => rfree_of hh, by omega⟩
    have hsz : (box0 s inp g n cF).size = 33 := rfl
    unfold L0
    rw [Array.getElem?_eq_getElem (by rw [hsz]; exact ho)]; rfl
  case rs => exact World.ownsRow_nil _ _ _ _
  case rc => exact World.ownsRow_nil _ _ _ _
  case re =>
    show World.ownsRow _ _ _ _ _ (Im.el (fun _ => false)).length (ints (Im.el (fun _ => false)))
    rw [el_none]
    exact World.ownsRow_nil _ _ _ _
  case dse => left; rfl
  case fc => exact hc
  case lc =>
    intro i hi
    rcases (show i = 0 ∨ i = 1 ∨ i = 2 ∨ i = 3 ∨ i = 4 ∨ i = 5 ∨ i = 6 ∨ i = 7 ∨ i = 8 ∨ i = 9 ∨ i = 10 ∨ i = 11 ∨ i = 12 ∨ i = 13 ∨ i = 14 ∨ i = 15 by omega) with h | h | h | h | h | h | h | h | h | h | h | h | h | h | h | h <;> subst h <;> rfl
  case hbb => omega
  case hbF => omega
  case hne => omega
  case hba => omega
  all_goals rfl

abbrev Rn : Type := Nat × Nat × Im.St × Nat
def rfa (r : Rn) : Nat := if r.1 = 1 then r.2.2.1.fn else 0
def rpa (r : Rn) : Nat := if r.1 = 1 then r.2.2.1.at_ else 0
def rsts (r : Rn) : List (Nat × Nat) := if r.1 = 1 then r.2.2.1.cal.reverse else []
def rtop (r : Rn) : Int := if r.1 = 0 then topI r.2.2.1.stk else -1
/-- the report of a run, in the machine's struct. -/
def DnR (bb base : Nat) (r : Rn) (L : Nat → Value) (w : World) : Prop := Dn bb base r.1 r.2.1 (rfa r) (rpa r) r.2.2.2 (rtop r) (rsts r) r.2.2.1.edg L w

def overB : Option Value → Bool
  | some (.bool true) => true
  | _ => false
def msr (bb fuel : Nat) (w : World) : Nat := if overB (w.cell? ⟨bb, 32, none⟩) then 0 else fuel + 1 - (intOf ((w.cell? ⟨bb, 30, none⟩).getD (.bool false))).toNat

/-- where Play's loop stands. -/
def PlSt (s inp : ByteArray) (n bb bF cF base fuel : Nat) (w : World) : Prop :=
  (∃ m k L, k ≤ fuel ∧ Im.Good s inp n m ∧ Ms s inp n bb bF cF base m k L w ∧ Im.runP s inp fuel (Im.st0 s) 0 = Im.runP s inp (fuel - k) m k) ∨
  (∃ L, DnR bb base (Im.runP s inp fuel (Im.st0 s) 0) L w)

theorem runP_step (s inp : ByteArray) (fuel k : Nat) (m : Im.St) (h : k < fuel) : Im.runP s inp (fuel - k) m k =
    if (Im.stepP s inp m).2 = 0 then Im.runP s inp (fuel - (k + 1)) (Im.stepP s inp m).1 (k + 1) else if (Im.stepP s inp m).2 = 10 then (0, 0, (Im.stepP s inp m).1, k + 1) else (1, (Im.stepP s inp m).2, (Im.stepP s inp m).1, k + 1) := by
  rw [show fuel - k = (fuel - (k + 1)) + 1 by omega]; rfl

theorem pl_next {s inp : ByteArray} {n bb bF cF base fuel k : Nat} {m : Im.St} {w w' : World} {e : Ending} (ho : Im.Okay s n) (hg : Im.Good s inp n m) (hk : k < fuel) (hr : Im.runP s inp fuel (Im.st0 s) 0 = Im.runP s inp (fuel - k) m k) (h : StepPost s inp n bb bF cF base m k w w' e) :
    PlSt s inp n bb bF cF base fuel w' ∧ msr bb fuel w' < fuel + 1 - k := by
  obtain ⟨_, _, h⟩ := h
  rw [runP_step s inp fuel k m hk] at hr
  rcases h with ⟨h0, L', hM⟩ | ⟨h10, L', hD⟩ | ⟨hn0, hn10, L', hD⟩
  · rw [if_pos h0] at hr
    refine ⟨Or.inl ⟨_, k + 1, L', by omega, Im.good_step s inp n m ho hg h0, hM, hr⟩, ?_⟩
    unfold msr
    rw [hM.k32, hM.k30]
    simp [overB, intOf]
    omega
  · have hs := Im.step_stays s inp m (by rw [h10]; decide)
    rw [if_neg (by rw [h10]; decide), if_pos h10, hs] at hr
    refine ⟨Or.inr ⟨L', ?_⟩, ?_⟩
    · rw [hr]; exact hD
    · unfold msr
      rw [(hD.bx.cell 32 (by omega)).trans (by rw [hD.l32])]
      simp [overB]; omega
  · have hs := Im.step_stays s inp m hn0
    rw [if_neg hn0, if_neg hn10, hs] at hr
    refine ⟨Or.inr ⟨L', ?_⟩, ?_⟩
    · rw [hr]; exact hD
    · unfold msr
      rw [(hD.bx.cell 32 (by omega)).trans (by rw [hD.l32])]
      simp [overB]; omega
end Go.Proofs.YtbmaiioecnmopaaGreatDoor

/-
  THE DOCUMENT's SIDE (package triageref): Play. By the verifier of the loop 'triage'.
-/
namespace Go.Proofs.YtbmaiioecnmopaaGreatDoor
open Go.RowKit

theorem owns_base {w : World} {base base' : Nat} {e : TypeId} {size : Nat} {v : Value} {n : Nat} {xs : List Value} (h : w.ownsRow base e size v n xs) (hb : base' ≤ base) : w.ownsRow base' e size v n xs := by
  obtain ⟨hl, h0 | ⟨g, cap, cur, h1, hb1, hr⟩⟩ := h
  · exact ⟨hl, Or.inl h0⟩
  · exact ⟨hl, Or.inr ⟨g, cap, cur, h1, by omega, hr⟩⟩

/-- what Play answers. -/
def RefRep (r : Rn) (w w' : World) (e : Ending) : Prop :=
  ∃ v28 v29, e = .returned (.agg #[.int .i64 (r.1 : Nat), .int .i64 (rfa r : Nat), .int .i64 (rpa r : Nat), .int .i64 (r.2.1 : Nat), v28, v29, .int .i64 (r.2.2.2 : Nat), .int .i64 (rtop r)]) ∧
    w'.ownsRow w.heap.size 86 2 v28 (rsts r).length (prs (rsts r)) ∧
    w'.ownsRow w.heap.size 3 1 v29 (Im.el r.2.2.1.edg).length (ints (Im.el r.2.2.1.edg)) ∧ Below w.heap.size w w'

/-- eight cells are set at a block. -/
def put8 (w : World) (b : Nat) (v0 v1 v2 v3 v4 v5 v6 v7 : Value) : World := (((((((w.setCell ⟨b, 0, none⟩ v0).setCell ⟨b, 1, none⟩ v1).setCell ⟨b, 2, none⟩ v2).setCell ⟨b, 3, none⟩ v3).setCell ⟨b, 4, none⟩ v4).setCell ⟨b, 5, none⟩ v5).setCell ⟨b, 6, none⟩ v6).setCell ⟨b, 7, none⟩ v7
theorem put8_owns {w : World} {b base : Nat} {v0 v1 v2 v3 v4 v5 v6 v7 : Value} {e : TypeId} {size : Nat} {v : Value} {n : Nat} {xs : List Value} (h : w.ownsRow base e size v n xs) (hb : b < base) : (put8 w b v0 v1 v2 v3 v4 v5 v6 v7).ownsRow base e size v n xs :=
  owns_setb (owns_setb (owns_setb (owns_setb (owns_setb (owns_setb (owns_setb (owns_setb h hb) hb) hb) hb) hb) hb) hb) hb
theorem put8_below {a w : World} {b B : Nat} {v0 v1 v2 v3 v4 v5 v6 v7 : Value} (h : Below B a w) (hb : B ≤ b) : Below B a (put8 w b v0 v1 v2 v3 v4 v5 v6 v7) :=
  (((((((h.setCell (p := ⟨b, 0, none⟩) hb _).setCell (p := ⟨b, 1, none⟩) hb _).setCell (p := ⟨b, 2, none⟩) hb _).setCell (p := ⟨b, 3, none⟩) hb _).setCell (p := ⟨b, 4, none⟩) hb _).setCell (p := ⟨b, 5, none⟩) hb _).setCell (p := ⟨b, 6, none⟩) hb _).setCell (p := ⟨b, 7, none⟩) hb _
theorem below_kx {w w1 w2 : World} {o : Obj} (h1 : Below (w.alloc o).heap.size (w.alloc o) w1) (h2 : Kx (w1.heap.size + 1) w1.heap.size w1 w2) : Below w.heap.size w w2 := by
  have hs := h1.size
  have h3 := h2.size
  simp at hs
  constructor
  case os => exact h2.os.trans h1.os
  case tape => exact h2.tape.trans h1.tape
  case output => exact h2.output.trans h1.output
  case size => omega
  case block => exact fun k hk => (h2.block k (by omega) (by omega)).trans ((h1.block k (by simp; omega)).trans (Below.heap_alloc _ _ _ hk))

theorem fcells_get (s : ByteArray) (n f : Nat) (h : f < n) : (fcells s n)[f * 2]? = some (.int .i64 (Im.st s f : Nat)) := by
  have hl : ∀ k, (fcells s k).length = k * 2 := fun k => by
    induction k with
    | zero => rfl
    | succ k ih => simp [fcells, ih]; omega
  induction n with
  | zero => omega
  | succ k ih =>
    show (fcells s k ++ _)[f * 2]? = _
    by_cases hk : f < k
    · rw [List.getElem?_append_left (by rw [hl]; omega)]; exact ih hk
    · obtain rfl : f = k := by omega
      rw [List.getElem?_append_right (by rw [hl]; omega), hl]
      simp

set_option maxHeartbeats 1600000 in
theorem play_any (s inp : ByteArray) (fuel : Nat) (w : World) (hc : Im.chk s = (0, 0)) (hi : inp.size ≤ 24) (hf : fuel ≤ 2000) :
    Calls Tryz.prog 31 #[.string s, .string inp, .int .i64 fuel] w fun e w' => RefRep (Im.runP s inp fuel (Im.st0 s) 0) w w' e := by
  have ho := Im.okay_of s hc
  have hhd : Im.hd s = none := by
    have h := hc
    unfold Im.chk at h
    rw [if_neg (by have := ho.hs; omega)] at h
    revert h
    cases Im.hd s with
    | none => intro _; rfl
    | some p => intro h; simp at h
  have hs := ho.hs
  have hn1 := ho.n1
  have hn6 := ho.n6
  have HO : Hid (Im.Okay s (Im.bt s 0)) := ho
  clear ho
  obtain ⟨n, HN⟩ : ∃ n, Hid (Im.bt s 0 = n) := ⟨_, rfl⟩
  rw [HN.out] at hn1 hn6 HO
  go_enter Tryz.func31, Tryz.ntmps31
  go_wp2_with fail
  refine (funcs_all s _ hs).mono ?_
  rintro e w1 ⟨v, rfl, hown, hb1⟩
  have hown := hown hhd
  rw [HN.out] at hown
  obtain ⟨g, cap, rfl, hgb, hnc, hcm, hgl, hcells⟩ := owns_some hown (by omega)
  have hfc : ∀ f, f < n → w1.cell? ⟨g, f * 2, none⟩ = some (.int .i64 (Im.st s f : Nat)) := fun f hf => hcells _ _ (fcells_get s n f hf)
  have hc0 := hfc 0 (by omega)
  have HB : Hid _ := hb1
  clear hown hcells hb1
  go_wp2
  have HRB : Hid (∀ w2, Kx (w1.heap.size + 1) w1.heap.size w1 w2 → w2.heap[w.heap.size]? = some (.cells #[.int .i64 0, .int .i64 0, .int .i64 0, .int .i64 0, .slice none 0 0, .slice none 0 0, .int .i64 0, .int .i64 0] 88 (0, 0)) ∧ w.heap.size < w1.heap.size) := fun w2 h2 => by
    have h1 := HB.out
    have h3 := h1.size
    simp at h3
    rw [h2.block w.heap.size (by omega) (by omega), h1.block w.heap.size (by simp)]
    exact ⟨rheap_new _ _, by omega⟩
  go_loopw [] (fun wr => PlSt s inp n w1.heap.size g cap (w1.heap.size + 1) fuel wr ∧ Kx (w1.heap.size + 1) w1.heap.size w1 wr) (fun wr => msr w1.heap.size fuel wr)
  case atStart =>
    refine ⟨Or.inl ⟨Im.st0 s, 0, _, Nat.zero_le _, Im.good_start s inp n HO.out, ms_start s inp g n cap w1.heap.size _ (rheap_new _ _) (by simp) hgl (fun f hf => (World.cell?_alloc_lt _ _ ⟨g, f * 2, none⟩ hgl).trans (hfc f hf)), rfl⟩, ⟨rfl, rfl, rfl, by simp, fun j hj hne => Below.heap_alloc _ _ _ (by omega)⟩⟩
  case round =>
    clear hfc hc0 hown
    have HP0 := HB.out
    obtain ⟨hP, hK⟩ := hrel
    obtain ⟨hrb, hrl⟩ := HRB.out wr hK
    have d0 : wr.cell? ⟨w.heap.size, 0, none⟩ = some (.int .i64 0) := rcell_of hrb rfl
    have d1 : wr.cell? ⟨w.heap.size, 1, none⟩ = some (.int .i64 0) := rcell_of hrb rfl
    have d2 : wr.cell? ⟨w.heap.size, 2, none⟩ = some (.int .i64 0) := rcell_of hrb rfl
    have d3 : wr.cell? ⟨w.heap.size, 3, none⟩ = some (.int .i64 0) := rcell_of hrb rfl
    have d4 : wr.cell? ⟨w.heap.size, 4, none⟩ = some (.slice none 0 0) := rcell_of hrb rfl
    have d5 : wr.cell? ⟨w.heap.size, 5, none⟩ = some (.slice none 0 0) := rcell_of hrb rfl
    have d6 : wr.cell? ⟨w.heap.size, 6, none⟩ = some (.int .i64 0) := rcell_of hrb rfl
    have d7 : wr.cell? ⟨w.heap.size, 7, none⟩ = some (.int .i64 0) := rcell_of hrb rfl
    have f0 : wr.frozen? ⟨w.heap.size, 0, none⟩ = false := rfree_of hrb
    have f1 : wr.frozen? ⟨w.heap.size, 1, none⟩ = false := rfree_of hrb
    have f2 : wr.frozen? ⟨w.heap.size, 2, none⟩ = false := rfree_of hrb
    have f3 : wr.frozen? ⟨w.heap.size, 3, none⟩ = false := rfree_of hrb
    have f4 : wr.frozen? ⟨w.heap.size, 4, none⟩ = false := rfree_of hrb
    have f5 : wr.frozen? ⟨w.heap.size, 5, none⟩ = false := rfree_of hrb
    have f6 : wr.frozen? ⟨w.heap.size, 6, none⟩ = false := rfree_of hrb
    have f7 : wr.frozen? ⟨w.heap.size, 7, none⟩ = false := rfree_of hrb
    rcases hP with ⟨m, k, L, hk, hg, hM, hr⟩ | ⟨L, hD⟩
    · have c30 := hM.k30
      have c32 := hM.k32
      by_cases hkf : k < fuel
      · have HI : Hid (Inv s inp n m) := inv_of s inp n m HO.out hi hg
        have HN2 : Hid (∀ e w', StepPost s inp n w1.heap.size g cap (w1.heap.size + 1) m k wr w' e → (PlSt s inp n w1.heap.size g cap (w1.heap.size + 1) fuel w' ∧ msr w1.heap.size fuel w' < msr w1.heap.size fuel wr) ∧ e = .returned (.tuple #[]) ∧ Kx (w1.heap.size + 1) w1.heap.size w1 w') := fun e w' h => by
          have h1 := pl_next HO.out hg hkf hr h
          refine ⟨⟨h1.1, ?_⟩, h.1, hK.trans h.2.1⟩
          have : msr w1.heap.size fuel wr = fuel + 1 - k := by
            unfold msr
            rw [c32, c30]
            simp [overB, intOf]
          omega
        have HM : Hid (Ms s inp n w1.heap.size g cap (w1.heap.size + 1) m k L wr) := hM
        clear d0 d1 d2 d3 d4 d5 d6 d7 f0 f1 f2 f3 f4 f5 f6 f7 hr hM hg hK hrb
        go_wp2_with fail
        refine (step_any s inp n w1.heap.size g cap (w1.heap.size + 1) k m L _ HM.out HI.out (by omega)).mono ?_
        rintro e w2 h2
        obtain ⟨⟨h3, h4⟩, he, h5⟩ := HN2.out _ _ h2
        subst he
        clear h2
        go_wp2
        go_roundw
        case rel => exact ⟨h3, h5⟩
        case measure => exact h4
      · obtain rfl : k = fuel := by omega
        rw [Nat.sub_self] at hr
        have c24 := hM.bx.cell 24 (by omega)
        have c25 := hM.bx.cell 25 (by omega)
        have c26 := hM.bx.cell 26 (by omega)
        have c27 := hM.bx.cell 27 (by omega)
        have c28 := hM.bx.cell 28 (by omega)
        have c29 := hM.bx.cell 29 (by omega)
        have c31 := hM.bx.cell 31 (by omega)
        have z24 := hM.bx.frz 24
        rw [hM.l24] at c24
        rw [hM.l25] at c25
        rw [hM.l26] at c26
        rw [hM.l27] at c27
        rw [hM.l28] at c28
        rw [hM.l31] at c31
        obtain ⟨a2, cap2, hv2, -, -, -⟩ := owns_shape hM.re
        have HR : Hid (Im.runP s inp k (Im.st0 s) 0 = (2, 0, m, k)) := hr
        have HE := hM.re
        rw [hv2] at c29 HE
        clear hr hM hv2
        go_wp2
        refine bodyPost_ret (v := .agg #[.int .i64 2, .int .i64 0, .int .i64 0, .int .i64 0, .slice none 0 0, .slice a2 (Im.el m.edg).length cap2, .int .i64 (k : Nat), .int .i64 (-1)]) (by simp [results, Tryz.results31, go_sem, d0, d1, d2, d3, d4, d5, d6, d7]) rfl ?_
        rw [HR.out]
        refine ⟨_, _, rfl, ?_, ?_, ?_⟩
        · exact World.ownsRow_nil _ _ _ _
        · exact owns_base (put8_owns (owns_setb HE (by omega)) (by omega)) (by omega)
        · exact put8_below (below_kx HB.out (hK.set _ _)) (Nat.le_refl _)
    · have c24 := hD.bx.cell 24 (by omega)
      have c25 := hD.bx.cell 25 (by omega)
      have c26 := hD.bx.cell 26 (by omega)
      have c27 := hD.bx.cell 27 (by omega)
      have c28 := hD.bx.cell 28 (by omega)
      have c29 := hD.bx.cell 29 (by omega)
      have c30 := hD.bx.cell 30 (by omega)
      have c31 := hD.bx.cell 31 (by omega)
      have c32 := hD.bx.cell 32 (by omega)
      rw [hD.l24] at c24
      rw [hD.l25] at c25
      rw [hD.l26] at c26
      rw [hD.l27] at c27
      rw [hD.l30] at c30
      rw [hD.l31] at c31
      rw [hD.l32] at c32
      obtain ⟨a1, cap1, hv1, -, -, -⟩ := owns_shape hD.r28
      obtain ⟨a2, cap2, hv2, -, -, -⟩ := owns_shape hD.re
      have HD : Hid (DnR w1.heap.size (w1.heap.size + 1) (Im.runP s inp fuel (Im.st0 s) 0) L wr) := hD
      have HV1 : Hid (L 28 = .slice a1 (rsts (Im.runP s inp fuel (Im.st0 s) 0)).length cap1) := hv1
      have HV2 : Hid (L 29 = .slice a2 (Im.el (Im.runP s inp fuel (Im.st0 s) 0).2.2.1.edg).length cap2) := hv2
      rw [hv1] at c28
      rw [hv2] at c29
      clear hD hv1 hv2
      obtain ⟨r, HR⟩ : ∃ r, Hid (Im.runP s inp fuel (Im.st0 s) 0 = r) := ⟨_, rfl⟩
      rw [HR.out] at c24 c25 c26 c27 c28 c29 c30 c31 HD HV1 HV2
      go_wp2
      refine bodyPost_ret (v := .agg #[.int .i64 (r.1 : Nat), .int .i64 (rfa r : Nat), .int .i64 (rpa r : Nat), .int .i64 (r.2.1 : Nat), .slice a1 (rsts r).length cap1, .slice a2 (Im.el r.2.2.1.edg).length cap2, .int .i64 (r.2.2.2 : Nat), .int .i64 (rtop r)]) (by simp [results, Tryz.results31, go_sem, d0, d1, d2, d3, d4, d5, d6, d7]) rfl ?_
      rw [HR.out]
      refine ⟨_, _, rfl, ?_, ?_, ?_⟩
      · have h := HD.out.r28
        rw [HV1.out] at h
        exact owns_base (put8_owns h (by omega)) (by omega)
      · have h := HD.out.re
        rw [HV2.out] at h
        exact owns_base (put8_owns h (by omega)) (by omega)
      · exact put8_below (below_kx HB.out hK) (Nat.le_refl _)
end Go.Proofs.YtbmaiioecnmopaaGreatDoor
