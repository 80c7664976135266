/-
  THE DOCUMENT's SIDE (package triageref): Step, op by op (laid by wip/steps.py). By the verifier of the loop 'triage'.
-/
import Derived.Test.YtbmaiioecnmopaaGreatDoorJ11
namespace Go.Proofs.YtbmaiioecnmopaaGreatDoor
open Go.RowKit

theorem wrap1 (a : Nat) (h : a + 1 < 256) : IntKind.wrap .i64 ((a : Int) + 1) = (a : Int) + 1 := by
  have := wrap_small (a + 1) h
  rw [cast_add] at this
  exact this
theorem wrap2 (a : Nat) (h : a + 2 < 256) : IntKind.wrap .i64 ((a : Int) + 2) = (a : Int) + 2 := by
  have := wrap_small (a + 2) h
  rw [cast_add] at this
  exact this
theorem take_top (l : List Nat) (h : 0 < l.length) : l.take (l.length - 1) ++ [Im.top l] = l := by
  unfold Im.top
  rw [List.getElem?_eq_getElem (by omega)]
  have := List.take_append_getElem (l := l) (i := l.length - 1) (by omega)
  rw [show l.length - 1 + 1 = l.length by omega, List.take_length] at this
  exact this
theorem top_take (l : List Nat) (h : 2 ≤ l.length) : Im.top (l.take (l.length - 1)) = Im.snd l := by
  unfold Im.top Im.snd
  rw [List.length_take, Nat.min_eq_left (by omega), List.getElem?_take, if_pos (by omega)]
  rfl
theorem take_take1 (l : List Nat) (h : 2 ≤ l.length) : (l.take (l.length - 1)).take ((l.take (l.length - 1)).length - 1) = l.take (l.length - 2) := by
  rw [List.length_take, Nat.min_eq_left (by omega), List.take_take]; congr 1; omega
theorem len_take1 (l : List Nat) : (l.take (l.length - 1)).length = l.length - 1 := by rw [List.length_take]; omega
theorem top_lt (l : List Nat) (h : 0 < l.length) (hv : ∀ x, x ∈ l → x < 256) : Im.top l < 256 := by
  unfold Im.top
  rw [List.getElem?_eq_getElem (by omega)]
  exact hv _ (List.getElem_mem _)
theorem snd_lt (l : List Nat) (h : 2 ≤ l.length) (hv : ∀ x, x ∈ l → x < 256) : Im.snd l < 256 := by
  unfold Im.snd
  rw [List.getElem?_eq_getElem (by omega)]
  exact hv _ (List.getElem_mem _)

set_option maxHeartbeats 6400000 in
set_option maxRecDepth 100000 in
theorem step_2 (s inp : ByteArray) (n bb bF cF base k : Nat) (m : Im.St) (L : Nat → Value) (w : World) (hM : Ms s inp n bb bF cF base m k L w) (hI : Inv s inp n m) (hk : k ≤ 100000) (hop : Im.bt s m.at_ = 2) (hT : ¬ m.stk.length < 1) (hO : ¬ 16 < m.stk.length - 1 + 0)  :
    Calls Tryz.prog 57 #[.pointer (some ⟨bb, 0, none⟩)] w fun e w' => StepPost s inp n bb bF cF base m k w w' e := by
  have HS : Hid (Im.stepP s inp m = ({ m with stk := m.stk.take (m.stk.length - 1), at_ := m.at_ + 1 }, 0)) := by
    show Im.stepP s inp m = _
    unfold Im.stepP
    rw [hop]
    rw [if_neg (show ¬ m.stk.length < Im.tk 2 from hT), if_neg (show ¬ 16 < m.stk.length - Im.tk 2 + Im.psh 2 from hO)]
    simp
  have k0 := hM.k0
  have k5 := hM.k5
  have k30 := hM.k30
  have z30 := hM.bx.frz 30
  have ha := hI.ha
  have hs := hI.hs
  have hl := hI.hl
  have hcl := hI.hcl
  have hsz := hI.hz
  rw [hop] at hsz

  obtain ⟨ao, cap, hv6, hnc, hcm, -⟩ := owns_shape hM.rs
  have c6 := hM.bx.cell 6 (by omega)
  rw [hv6] at c6
  have hb := (Im.bt_eq s m.at_ ha).trans hop
  have HM1 : Hid (∀ q, Ms s inp n bb bF cF base m (k + 1) (updV L 30 (.int .i64 (k + 1 : Nat))) ((w.drewN q).setCell ⟨bb, 30, none⟩ (.int .i64 ((k : Int) + 1)))) := fun q => by
    have := (hM.drewN q).setSteps (k + 1)
    rw [cast_add] at this
    exact this
  have HK1 : Hid (∀ q, Kx base bb w ((w.drewN q).setCell ⟨bb, 30, none⟩ (.int .i64 ((k : Int) + 1)))) := fun q => ((Kx.refl base bb w).drewN q).set _ _
  clear hM hI hv6 hop
  obtain ⟨f, a, pos, stk, cel, cal, edg⟩ := m
  dsimp only at *
  have ht : Im.tk 2 = 1 := rfl
  have hp : Im.psh 2 = 0 := rfl
  have hz : Im.sz 2 = 1 := rfl
  rw [hz] at hsz
  go_enter Tryz.func57, Tryz.ntmps57
  go_wp2
  go_quiet (fail)
  go_wp2
  go_quiet ((go_at_call 87; exact quiet_at ⟨_, rfl⟩ (takes_any 2 _ (by decide))))
  go_wp2
  go_quiet ((first | (go_at_call 87; exact quiet_at ⟨_, rfl⟩ (takes_any 2 _ (by decide))) | (go_at_call 89; exact quiet_at ⟨_, rfl⟩ (pushes_any 2 _ (by decide)))))
  go_wp2_with fail
  refine (pop_any s inp n bb bF cF base (k + 1) _ _ _ ((HM1.out _).drewN _) (by show 0 < stk.length; omega) (by show stk.length ≤ 100; omega)).mono ?_
  rintro e w1 ⟨rfl, ⟨L1, hM1⟩, h1⟩
  have hK1 := ((HK1.out _).drewN _).trans h1
  clear h1
  have k32' := hM1.k32
  have k5' := hM1.k5
  have z5' := hM1.bx.frz 5
  dsimp only at k5'
  have HP : Hid (∀ q, StepPost s inp n bb bF cF base ⟨f, a, pos, stk, cel, cal, edg⟩ k w ((w1.setCell ⟨bb, 5, none⟩ (.int .i64 ((a : Int) + ((1 : Nat) : Int)))).drewN q) (.returned (.tuple #[]))) := fun q => by
    have h := hM1.setAt (a + 1)
    rw [cast_add] at h
    exact step_go HS.out hK1 ⟨rfl, ⟨_, h.drewN q⟩, ((Kx.refl base bb w1).set _ _).drewN q⟩
  clear hM1
  go_wp2
  go_region_with (go_at_call 98; refine (size_any 2 _ (by decide) (by decide)).mono ?_; rintro e w' ⟨rfl, rfl⟩)
  all_goals
    go_wp2
    go_end0
    first
      | (rw [wrap1 a (by omega)]; exact HP.out 1)
      | exact HP.out 1

set_option maxHeartbeats 6400000 in
set_option maxRecDepth 100000 in
theorem step_10 (s inp : ByteArray) (n bb bF cF base k : Nat) (m : Im.St) (L : Nat → Value) (w : World) (hM : Ms s inp n bb bF cF base m k L w) (hI : Inv s inp n m) (hk : k ≤ 100000) (hop : Im.bt s m.at_ = 10) (hT : ¬ m.stk.length < 0) (hO : ¬ 16 < m.stk.length - 0 + 0)  :
    Calls Tryz.prog 57 #[.pointer (some ⟨bb, 0, none⟩)] w fun e w' => StepPost s inp n bb bF cF base m k w w' e := by
  have HS : Hid (Im.stepP s inp m = ({ m with at_ := Im.st s m.fn + Im.bt s (m.at_ + 1), edg := Im.up m.edg (2 * m.at_ + 1) }, 0)) := by
    show Im.stepP s inp m = _
    unfold Im.stepP
    rw [hop]
    rw [if_neg (show ¬ m.stk.length < Im.tk 10 from hT), if_neg (show ¬ 16 < m.stk.length - Im.tk 10 + Im.psh 10 from hO)]
    simp
  have k0 := hM.k0
  have k5 := hM.k5
  have k30 := hM.k30
  have z30 := hM.bx.frz 30
  have ha := hI.ha
  have hs := hI.hs
  have hl := hI.hl
  have hcl := hI.hcl
  have hsz := hI.hz
  rw [hop] at hsz
  have hf := hI.hf
  have hst := hI.hst _ hI.hf
  obtain ⟨ao, cap, hv6, hnc, hcm, -⟩ := owns_shape hM.rs
  have c6 := hM.bx.cell 6 (by omega)
  rw [hv6] at c6
  have hb := (Im.bt_eq s m.at_ ha).trans hop
  have HM1 : Hid (∀ q, Ms s inp n bb bF cF base m (k + 1) (updV L 30 (.int .i64 (k + 1 : Nat))) ((w.drewN q).setCell ⟨bb, 30, none⟩ (.int .i64 ((k : Int) + 1)))) := fun q => by
    have := (hM.drewN q).setSteps (k + 1)
    rw [cast_add] at this
    exact this
  have HK1 : Hid (∀ q, Kx base bb w ((w.drewN q).setCell ⟨bb, 30, none⟩ (.int .i64 ((k : Int) + 1)))) := fun q => ((Kx.refl base bb w).drewN q).set _ _
  clear hM hI hv6 hop
  obtain ⟨f, a, pos, stk, cel, cal, edg⟩ := m
  dsimp only at *
  have ht : Im.tk 10 = 0 := rfl
  have hp : Im.psh 10 = 0 := rfl
  have hz : Im.sz 10 = 2 := rfl
  rw [hz] at hsz
  go_enter Tryz.func57, Tryz.ntmps57
  go_wp2
  go_quiet (fail)
  go_wp2
  go_quiet ((go_at_call 87; exact quiet_at ⟨_, rfl⟩ (takes_any 10 _ (by decide))))
  go_wp2
  go_quiet ((first | (go_at_call 87; exact quiet_at ⟨_, rfl⟩ (takes_any 10 _ (by decide))) | (go_at_call 89; exact quiet_at ⟨_, rfl⟩ (pushes_any 10 _ (by decide)))))
  go_wp2_with fail
  refine (goes_jmp s inp n bb bF cF base (k + 1) _ _ _ ((HM1.out _).drewN _) hs (by exact hf) (by show a + 1 < s.size; omega) (by show Im.st s f ≤ 1000; omega)).mono ?_
  rintro e w1 h1
  have he := h1.1
  have HP : Hid (StepPost s inp n bb bF cF base ⟨f, a, pos, stk, cel, cal, edg⟩ k w w1 e) := step_go HS.out ((HK1.out _).drewN _) h1
  subst he
  clear h1
  go_wp2
  first
    | (go_end0; exact HP.out)
    | exact bodyPost_ret (v := .tuple #[]) (by simp [results, Tryz.results57, go_sem]) rfl HP.out

set_option maxHeartbeats 6400000 in
set_option maxRecDepth 100000 in
theorem step_11a (s inp : ByteArray) (n bb bF cF base k : Nat) (m : Im.St) (L : Nat → Value) (w : World) (hM : Ms s inp n bb bF cF base m k L w) (hI : Inv s inp n m) (hk : k ≤ 100000) (hop : Im.bt s m.at_ = 11) (hT : ¬ m.stk.length < 1) (hO : ¬ 16 < m.stk.length - 1 + 0) (hx : Im.top m.stk = 0) :
    Calls Tryz.prog 57 #[.pointer (some ⟨bb, 0, none⟩)] w fun e w' => StepPost s inp n bb bF cF base m k w w' e := by
  have HS : Hid (Im.stepP s inp m = ({ m with stk := m.stk.take (m.stk.length - 1), at_ := Im.st s m.fn + Im.bt s (m.at_ + 1), edg := Im.up m.edg (2 * m.at_ + 1) }, 0)) := by
    show Im.stepP s inp m = _
    unfold Im.stepP
    rw [hop]
    rw [if_neg (show ¬ m.stk.length < Im.tk 11 from hT), if_neg (show ¬ 16 < m.stk.length - Im.tk 11 + Im.psh 11 from hO)]
    simp [hx]
  have k0 := hM.k0
  have k5 := hM.k5
  have k30 := hM.k30
  have z30 := hM.bx.frz 30
  have ha := hI.ha
  have hs := hI.hs
  have hl := hI.hl
  have hcl := hI.hcl
  have hsz := hI.hz
  rw [hop] at hsz
  have hf := hI.hf
  have hst := hI.hst _ hI.hf
  obtain ⟨ao, cap, hv6, hnc, hcm, -⟩ := owns_shape hM.rs
  have c6 := hM.bx.cell 6 (by omega)
  rw [hv6] at c6
  have hb := (Im.bt_eq s m.at_ ha).trans hop
  have HM1 : Hid (∀ q, Ms s inp n bb bF cF base m (k + 1) (updV L 30 (.int .i64 (k + 1 : Nat))) ((w.drewN q).setCell ⟨bb, 30, none⟩ (.int .i64 ((k : Int) + 1)))) := fun q => by
    have := (hM.drewN q).setSteps (k + 1)
    rw [cast_add] at this
    exact this
  have HK1 : Hid (∀ q, Kx base bb w ((w.drewN q).setCell ⟨bb, 30, none⟩ (.int .i64 ((k : Int) + 1)))) := fun q => ((Kx.refl base bb w).drewN q).set _ _
  clear hM hI hv6 hop
  obtain ⟨f, a, pos, stk, cel, cal, edg⟩ := m
  dsimp only at *
  have ht : Im.tk 11 = 1 := rfl
  have hp : Im.psh 11 = 0 := rfl
  have hz : Im.sz 11 = 2 := rfl
  rw [hz] at hsz
  go_enter Tryz.func57, Tryz.ntmps57
  go_wp2
  go_quiet (fail)
  go_wp2
  go_quiet ((go_at_call 87; exact quiet_at ⟨_, rfl⟩ (takes_any 11 _ (by decide))))
  go_wp2
  go_quiet ((first | (go_at_call 87; exact quiet_at ⟨_, rfl⟩ (takes_any 11 _ (by decide))) | (go_at_call 89; exact quiet_at ⟨_, rfl⟩ (pushes_any 11 _ (by decide)))))
  go_wp2_with fail
  refine (goes_jz0 s inp n bb bF cF base (k + 1) _ _ _ ((HM1.out _).drewN _) hs (by exact hf) (by show a + 1 < s.size; omega) (by show Im.st s f ≤ 1000; omega) (by show 0 < stk.length; omega) (by show stk.length ≤ 100; omega) (by exact hx)).mono ?_
  rintro e w1 h1
  have he := h1.1
  have HP : Hid (StepPost s inp n bb bF cF base ⟨f, a, pos, stk, cel, cal, edg⟩ k w w1 e) := step_go HS.out ((HK1.out _).drewN _) h1
  subst he
  clear h1
  go_wp2
  first
    | (go_end0; exact HP.out)
    | exact bodyPost_ret (v := .tuple #[]) (by simp [results, Tryz.results57, go_sem]) rfl HP.out

set_option maxHeartbeats 6400000 in
set_option maxRecDepth 100000 in
theorem step_11b (s inp : ByteArray) (n bb bF cF base k : Nat) (m : Im.St) (L : Nat → Value) (w : World) (hM : Ms s inp n bb bF cF base m k L w) (hI : Inv s inp n m) (hk : k ≤ 100000) (hop : Im.bt s m.at_ = 11) (hT : ¬ m.stk.length < 1) (hO : ¬ 16 < m.stk.length - 1 + 0) (hx : Im.top m.stk ≠ 0) :
    Calls Tryz.prog 57 #[.pointer (some ⟨bb, 0, none⟩)] w fun e w' => StepPost s inp n bb bF cF base m k w w' e := by
  have HS : Hid (Im.stepP s inp m = ({ m with stk := m.stk.take (m.stk.length - 1), at_ := m.at_ + 2, edg := Im.up m.edg (2 * m.at_) }, 0)) := by
    show Im.stepP s inp m = _
    unfold Im.stepP
    rw [hop]
    rw [if_neg (show ¬ m.stk.length < Im.tk 11 from hT), if_neg (show ¬ 16 < m.stk.length - Im.tk 11 + Im.psh 11 from hO)]
    simp [hx]
  have k0 := hM.k0
  have k5 := hM.k5
  have k30 := hM.k30
  have z30 := hM.bx.frz 30
  have ha := hI.ha
  have hs := hI.hs
  have hl := hI.hl
  have hcl := hI.hcl
  have hsz := hI.hz
  rw [hop] at hsz
  have hf := hI.hf
  have hst := hI.hst _ hI.hf
  obtain ⟨ao, cap, hv6, hnc, hcm, -⟩ := owns_shape hM.rs
  have c6 := hM.bx.cell 6 (by omega)
  rw [hv6] at c6
  have hb := (Im.bt_eq s m.at_ ha).trans hop
  have HM1 : Hid (∀ q, Ms s inp n bb bF cF base m (k + 1) (updV L 30 (.int .i64 (k + 1 : Nat))) ((w.drewN q).setCell ⟨bb, 30, none⟩ (.int .i64 ((k : Int) + 1)))) := fun q => by
    have := (hM.drewN q).setSteps (k + 1)
    rw [cast_add] at this
    exact this
  have HK1 : Hid (∀ q, Kx base bb w ((w.drewN q).setCell ⟨bb, 30, none⟩ (.int .i64 ((k : Int) + 1)))) := fun q => ((Kx.refl base bb w).drewN q).set _ _
  clear hM hI hv6 hop
  obtain ⟨f, a, pos, stk, cel, cal, edg⟩ := m
  dsimp only at *
  have ht : Im.tk 11 = 1 := rfl
  have hp : Im.psh 11 = 0 := rfl
  have hz : Im.sz 11 = 2 := rfl
  rw [hz] at hsz
  go_enter Tryz.func57, Tryz.ntmps57
  go_wp2
  go_quiet (fail)
  go_wp2
  go_quiet ((go_at_call 87; exact quiet_at ⟨_, rfl⟩ (takes_any 11 _ (by decide))))
  go_wp2
  go_quiet ((first | (go_at_call 87; exact quiet_at ⟨_, rfl⟩ (takes_any 11 _ (by decide))) | (go_at_call 89; exact quiet_at ⟨_, rfl⟩ (pushes_any 11 _ (by decide)))))
  go_wp2_with fail
  refine (goes_jz1 s inp n bb bF cF base (k + 1) _ _ _ ((HM1.out _).drewN _) hs (by exact hf) (by show a + 1 < s.size; omega) (by show Im.st s f ≤ 1000; omega) (by show 0 < stk.length; omega) (by show stk.length ≤ 100; omega) (by exact hx)).mono ?_
  rintro e w1 h1
  have he := h1.1
  have HP : Hid (StepPost s inp n bb bF cF base ⟨f, a, pos, stk, cel, cal, edg⟩ k w w1 e) := step_go HS.out ((HK1.out _).drewN _) h1
  subst he
  clear h1
  go_wp2
  first
    | (go_end0; exact HP.out)
    | exact bodyPost_ret (v := .tuple #[]) (by simp [results, Tryz.results57, go_sem]) rfl HP.out

set_option maxHeartbeats 6400000 in
set_option maxRecDepth 100000 in
theorem step_0a (s inp : ByteArray) (n bb bF cF base k : Nat) (m : Im.St) (L : Nat → Value) (w : World) (hM : Ms s inp n bb bF cF base m k L w) (hI : Inv s inp n m) (hk : k ≤ 100000) (hop : Im.bt s m.at_ = 0) (hT : ¬ m.stk.length < 0) (hO : ¬ 16 < m.stk.length - 0 + 0) (hc : m.cal.length = 0) :
    Calls Tryz.prog 57 #[.pointer (some ⟨bb, 0, none⟩)] w fun e w' => StepPost s inp n bb bF cF base m k w w' e := by
  have HS : Hid (Im.stepP s inp m = (m, 10)) := by
    show Im.stepP s inp m = _
    unfold Im.stepP
    rw [hop]
    rw [if_neg (show ¬ m.stk.length < Im.tk 0 from hT), if_neg (show ¬ 16 < m.stk.length - Im.tk 0 + Im.psh 0 from hO)]
    simp [hc]
  have k0 := hM.k0
  have k5 := hM.k5
  have k30 := hM.k30
  have z30 := hM.bx.frz 30
  have ha := hI.ha
  have hs := hI.hs
  have hl := hI.hl
  have hcl := hI.hcl
  have hsz := hI.hz
  rw [hop] at hsz

  obtain ⟨ao, cap, hv6, hnc, hcm, -⟩ := owns_shape hM.rs
  have c6 := hM.bx.cell 6 (by omega)
  rw [hv6] at c6
  have hb := (Im.bt_eq s m.at_ ha).trans hop
  have HM1 : Hid (∀ q, Ms s inp n bb bF cF base m (k + 1) (updV L 30 (.int .i64 (k + 1 : Nat))) ((w.drewN q).setCell ⟨bb, 30, none⟩ (.int .i64 ((k : Int) + 1)))) := fun q => by
    have := (hM.drewN q).setSteps (k + 1)
    rw [cast_add] at this
    exact this
  have HK1 : Hid (∀ q, Kx base bb w ((w.drewN q).setCell ⟨bb, 30, none⟩ (.int .i64 ((k : Int) + 1)))) := fun q => ((Kx.refl base bb w).drewN q).set _ _
  clear hM hI hv6 hop
  obtain ⟨f, a, pos, stk, cel, cal, edg⟩ := m
  dsimp only at *
  have ht : Im.tk 0 = 0 := rfl
  have hp : Im.psh 0 = 0 := rfl
  have hz : Im.sz 0 = 1 := rfl
  rw [hz] at hsz
  go_enter Tryz.func57, Tryz.ntmps57
  go_wp2
  go_quiet (fail)
  go_wp2
  go_quiet ((go_at_call 87; exact quiet_at ⟨_, rfl⟩ (takes_any 0 _ (by decide))))
  go_wp2
  go_quiet ((first | (go_at_call 87; exact quiet_at ⟨_, rfl⟩ (takes_any 0 _ (by decide))) | (go_at_call 89; exact quiet_at ⟨_, rfl⟩ (pushes_any 0 _ (by decide)))))
  go_wp2_with fail
  refine (back_end s inp n bb bF cF base (k + 1) _ _ _ ((HM1.out _).drewN _) (by show stk.length ≤ 100; omega) (by exact hc)).mono ?_
  rintro e w1 h1
  have he := h1.1
  have HP : Hid (StepPost s inp n bb bF cF base ⟨f, a, pos, stk, cel, cal, edg⟩ k w w1 e) := step_end HS.out ((HK1.out _).drewN _) h1
  subst he
  clear h1
  go_wp2
  first
    | (go_end0; exact HP.out)
    | exact bodyPost_ret (v := .tuple #[]) (by simp [results, Tryz.results57, go_sem]) rfl HP.out

set_option maxHeartbeats 6400000 in
set_option maxRecDepth 100000 in
theorem step_0b (s inp : ByteArray) (n bb bF cF base k : Nat) (m : Im.St) (L : Nat → Value) (w : World) (hM : Ms s inp n bb bF cF base m k L w) (hI : Inv s inp n m) (hk : k ≤ 100000) (hop : Im.bt s m.at_ = 0) (hT : ¬ m.stk.length < 0) (hO : ¬ 16 < m.stk.length - 0 + 0) (hc : 0 < m.cal.length) :
    Calls Tryz.prog 57 #[.pointer (some ⟨bb, 0, none⟩)] w fun e w' => StepPost s inp n bb bF cF base m k w w' e := by
  have HS : Hid (Im.stepP s inp m = ({ m with fn := (m.cal[m.cal.length - 1]?.getD (0, 0)).1, at_ := (m.cal[m.cal.length - 1]?.getD (0, 0)).2 + 2, cal := m.cal.take (m.cal.length - 1) }, 0)) := by
    show Im.stepP s inp m = _
    unfold Im.stepP
    rw [hop]
    rw [if_neg (show ¬ m.stk.length < Im.tk 0 from hT), if_neg (show ¬ 16 < m.stk.length - Im.tk 0 + Im.psh 0 from hO)]
    rw [if_pos rfl, if_neg (by omega)]
  have k0 := hM.k0
  have k5 := hM.k5
  have k30 := hM.k30
  have z30 := hM.bx.frz 30
  have ha := hI.ha
  have hs := hI.hs
  have hl := hI.hl
  have hcl := hI.hcl
  have hsz := hI.hz
  rw [hop] at hsz
  have hpl : (m.cal[m.cal.length - 1]?.getD (0, 0)).2 ≤ 1000 := by
    have h := (hI.hcv (m.cal[m.cal.length - 1]?.getD (0, 0)) (by rw [List.getElem?_eq_getElem (by omega)]; simp)).2
    omega
  obtain ⟨ao, cap, hv6, hnc, hcm, -⟩ := owns_shape hM.rs
  have c6 := hM.bx.cell 6 (by omega)
  rw [hv6] at c6
  have hb := (Im.bt_eq s m.at_ ha).trans hop
  have HM1 : Hid (∀ q, Ms s inp n bb bF cF base m (k + 1) (updV L 30 (.int .i64 (k + 1 : Nat))) ((w.drewN q).setCell ⟨bb, 30, none⟩ (.int .i64 ((k : Int) + 1)))) := fun q => by
    have := (hM.drewN q).setSteps (k + 1)
    rw [cast_add] at this
    exact this
  have HK1 : Hid (∀ q, Kx base bb w ((w.drewN q).setCell ⟨bb, 30, none⟩ (.int .i64 ((k : Int) + 1)))) := fun q => ((Kx.refl base bb w).drewN q).set _ _
  clear hM hI hv6 hop
  obtain ⟨f, a, pos, stk, cel, cal, edg⟩ := m
  dsimp only at *
  have ht : Im.tk 0 = 0 := rfl
  have hp : Im.psh 0 = 0 := rfl
  have hz : Im.sz 0 = 1 := rfl
  rw [hz] at hsz
  go_enter Tryz.func57, Tryz.ntmps57
  go_wp2
  go_quiet (fail)
  go_wp2
  go_quiet ((go_at_call 87; exact quiet_at ⟨_, rfl⟩ (takes_any 0 _ (by decide))))
  go_wp2
  go_quiet ((first | (go_at_call 87; exact quiet_at ⟨_, rfl⟩ (takes_any 0 _ (by decide))) | (go_at_call 89; exact quiet_at ⟨_, rfl⟩ (pushes_any 0 _ (by decide)))))
  go_wp2_with fail
  refine (back_ret s inp n bb bF cF base (k + 1) _ _ _ ((HM1.out _).drewN _) (by show cal.length ≤ 100; omega) (by exact hc) (by exact hpl)).mono ?_
  rintro e w1 h1
  have he := h1.1
  have HP : Hid (StepPost s inp n bb bF cF base ⟨f, a, pos, stk, cel, cal, edg⟩ k w w1 e) := step_go HS.out ((HK1.out _).drewN _) h1
  subst he
  clear h1
  go_wp2
  first
    | (go_end0; exact HP.out)
    | exact bodyPost_ret (v := .tuple #[]) (by simp [results, Tryz.results57, go_sem]) rfl HP.out

end Go.Proofs.YtbmaiioecnmopaaGreatDoor
