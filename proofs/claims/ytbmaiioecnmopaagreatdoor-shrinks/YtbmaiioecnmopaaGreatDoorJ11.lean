/-
  RefV, RefW, RefX: THESE TEXTS, JOINED. By the verifier of the loop 'triage'.
-/
import Derived.Test.YtbmaiioecnmopaaGreatDoorJ10
/-
  THE DOCUMENT's SIDE (package triageref): input, cells. By the verifier of the loop 'triage'.
-/
namespace Go.Proofs.YtbmaiioecnmopaaGreatDoor
open Go.RowKit

set_option maxHeartbeats 1600000 in
set_option maxRecDepth 100000 in
theorem input_more (s inp : ByteArray) (n bb bF cF base k : Nat) (m : Im.St) (L : Nat → Value) (w : World) (hM : Ms s inp n bb bF cF base m k L w) (hl2 : m.stk.length ≤ 100) (hp : m.pos ≤ inp.size) :
    Calls Tryz.prog 95 #[.pointer (some ⟨bb, 0, none⟩), .int .u8 14] w fun e w' => GoPost s inp n bb bF cF base { m with stk := m.stk ++ [if m.pos < inp.size then 1 else 0] } k w w' e := by
  have k3 := hM.k3
  have k2 := hM.k2
  obtain ⟨f, a, pos, stk, cel, cal, edg⟩ := m
  dsimp only at *
  have HM : Hid (Ms s inp n bb bF cF base ⟨f, a, pos, stk, cel, cal, edg⟩ k L w) := hM
  clear hM
  by_cases hlt : pos < inp.size
  · rw [if_pos hlt]
    have hd : decide ((pos : Int) < (inp.size : Int)) = true := by simp; omega
    go_enter Tryz.func95, Tryz.ntmps95
    go_wp2
    go_quiet (fail)
    go_wp2_with (go_at_call 106; refine (truth_any true _).mono ?_; rintro e w' ⟨rfl, rfl⟩)
    go_wp2_with fail
    refine (push_any s inp n bb bF cF base k _ L _ 1 _ (HM.out.drewN _) hl2 (by simp)).mono ?_
    rintro e w1 ⟨rfl, h1, h2⟩
    have HP : Hid (GoPost s inp n bb bF cF base ⟨f, a, pos, stk ++ [1], cel, cal, edg⟩ k w w1 (.returned (.tuple #[]))) := ⟨rfl, h1, ((Kx.refl base bb w).drewN _).trans h2⟩
    clear h1 h2
    go_wp2
    go_end0
    exact HP.out
  · rw [if_neg hlt]
    have hd : decide ((pos : Int) < (inp.size : Int)) = false := by simp; omega
    go_enter Tryz.func95, Tryz.ntmps95
    go_wp2
    go_quiet (fail)
    go_wp2_with (go_at_call 106; refine (truth_any false _).mono ?_; rintro e w' ⟨rfl, rfl⟩)
    go_wp2_with fail
    refine (push_any s inp n bb bF cF base k _ L _ 0 _ (HM.out.drewN _) hl2 (by simp)).mono ?_
    rintro e w1 ⟨rfl, h1, h2⟩
    have HP : Hid (GoPost s inp n bb bF cF base ⟨f, a, pos, stk ++ [0], cel, cal, edg⟩ k w w1 (.returned (.tuple #[]))) := ⟨rfl, h1, ((Kx.refl base bb w).drewN _).trans h2⟩
    clear h1 h2
    go_wp2
    go_end0
    exact HP.out

set_option maxHeartbeats 1600000 in
set_option maxRecDepth 100000 in
theorem input_none (s inp : ByteArray) (n bb bF cF base k : Nat) (m : Im.St) (L : Nat → Value) (w : World) (hM : Ms s inp n bb bF cF base m k L w) (hl2 : m.stk.length ≤ 100) (hp : ¬ m.pos < inp.size) (hp2 : m.pos ≤ inp.size) :
    Calls Tryz.prog 95 #[.pointer (some ⟨bb, 0, none⟩), .int .u8 13] w fun e w' => GoPost s inp n bb bF cF base { m with stk := m.stk ++ [0] } k w w' e := by
  have k3 := hM.k3
  have k2 := hM.k2
  obtain ⟨f, a, pos, stk, cel, cal, edg⟩ := m
  dsimp only at *
  have HM : Hid (Ms s inp n bb bF cF base ⟨f, a, pos, stk, cel, cal, edg⟩ k L w) := hM
  clear hM
  have hd : decide ((pos : Int) < (inp.size : Int)) = false := by simp; omega
  go_enter Tryz.func95, Tryz.ntmps95
  go_wp2
  go_quiet (fail)
  go_wp2_with fail
  refine (push_any s inp n bb bF cF base k _ L _ 0 _ (HM.out.drewN _) hl2 (by simp)).mono ?_
  rintro e w1 ⟨rfl, h1, h2⟩
  have HP : Hid (GoPost s inp n bb bF cF base ⟨f, a, pos, stk ++ [0], cel, cal, edg⟩ k w w1 (.returned (.tuple #[]))) := ⟨rfl, h1, ((Kx.refl base bb w).drewN _).trans h2⟩
  clear h1 h2
  go_wp2
  go_end0
  exact HP.out

set_option maxHeartbeats 3200000 in
set_option maxRecDepth 100000 in
theorem input_in (s inp : ByteArray) (n bb bF cF base k : Nat) (m : Im.St) (L : Nat → Value) (w : World) (hM : Ms s inp n bb bF cF base m k L w) (hl2 : m.stk.length ≤ 100) (hi : inp.size ≤ 24) (hp : m.pos < inp.size) :
    Calls Tryz.prog 95 #[.pointer (some ⟨bb, 0, none⟩), .int .u8 13] w fun e w' => GoPost s inp n bb bF cF base { m with stk := m.stk ++ [Im.bt inp m.pos], pos := m.pos + 1 } k w w' e := by
  have k3 := hM.k3
  have k2 := hM.k2
  obtain ⟨f, a, pos, stk, cel, cal, edg⟩ := m
  dsimp only at *
  have HM : Hid (Ms s inp n bb bF cF base ⟨f, a, pos, stk, cel, cal, edg⟩ k L w) := hM
  clear hM
  have hb := Im.bt_eq inp pos hp
  have hb256 := Im.bt_lt inp pos
  generalize Im.bt inp pos = b at *
  have hd : decide ((pos : Int) < (inp.size : Int)) = true := by simp; omega
  go_enter Tryz.func95, Tryz.ntmps95
  go_wp2
  go_quiet (fail)
  go_wp2
  go_region_with (go_at_call 93; refine (push_any s inp n bb bF cF base k ⟨f, a, pos, stk, cel, cal, edg⟩ L _ b _ ?_ hl2 ?_).mono ?_; exact HM.out.drewN _; (rw [wrap_small _ hb256]; omega); rintro e w1 ⟨rfl, ⟨L1, hM1⟩, h2⟩)
  all_goals
    have k3' := hM1.k3
    have z3' := hM1.bx.frz 3
    have HP : GoPost s inp n bb bF cF base ⟨f, a, pos + 1, stk ++ [b], cel, cal, edg⟩ k w (w1.setCell ⟨bb, 3, none⟩ (.int .i64 (pos + 1 : Nat))) (.returned (.tuple #[])) := ⟨rfl, ⟨_, hM1.setPos (pos + 1)⟩, (((Kx.refl base bb w).drewN _).trans h2).set _ _⟩
    rw [cast_add] at HP
    have HPH : Hid (GoPost s inp n bb bF cF base ⟨f, a, pos + 1, stk ++ [b], cel, cal, edg⟩ k w (w1.setCell ⟨bb, 3, none⟩ (.int .i64 ((pos : Int) + ((1 : Nat) : Int)))) (.returned (.tuple #[]))) := HP
    clear HP hM1 h2 k3 k2
    go_wp2
    go_end0
    exact HPH.out
set_option maxHeartbeats 3200000 in
set_option maxRecDepth 100000 in
theorem cells_wild15 (s inp : ByteArray) (n bb bF cF base k : Nat) (m : Im.St) (L : Nat → Value) (w : World) (hM : Ms s inp n bb bF cF base m k L w) (hl2 : m.stk.length ≤ 100) (hl : 0 < m.stk.length) (hc : m.cal.length ≤ 100) (hw : 16 ≤ Im.top m.stk) :
    Calls Tryz.prog 96 #[.pointer (some ⟨bb, 0, none⟩), .int .u8 15] w fun e w' => FaultPost bb base 4 k m w w' e := by
  obtain ⟨f, a, pos, stk, cel, cal, edg⟩ := m
  dsimp only at *
  have HM : Hid (Ms s inp n bb bF cF base ⟨f, a, pos, stk, cel, cal, edg⟩ k L w) := hM
  clear hM
  go_enter Tryz.func96, Tryz.ntmps96
  go_wp2_with fail
  refine (pop_any s inp n bb bF cF base k _ L _ HM.out (by exact hl) hl2).mono ?_
  rintro e w1 ⟨rfl, ⟨L1, hM1⟩, h1⟩
  dsimp only at *
  clear HM
  have HM1 : Hid (Ms s inp n bb bF cF base ⟨f, a, pos, stk.take (stk.length - 1), cel, cal, edg⟩ k L1 w1) := hM1
  clear hM1
  go_wp2_with fail
  refine (fault_any s inp n bb bF cF base k 4 _ L1 _ HM1.out (by exact hc)).mono ?_
  rintro e w2 ⟨rfl, h2, h3⟩
  have HP : Hid (FaultPost bb base 4 k ⟨f, a, pos, stk, cel, cal, edg⟩ w w2 (.returned (.tuple #[]))) := ⟨rfl, h2, h1.trans h3⟩
  clear h1 h2 h3
  go_wp2
  first
    | (go_end0; exact HP.out)
    | exact bodyPost_ret (v := .tuple #[]) (by simp [results, Tryz.results96, go_sem]) rfl HP.out
set_option maxHeartbeats 3200000 in
set_option maxRecDepth 100000 in
theorem cells_wild16 (s inp : ByteArray) (n bb bF cF base k : Nat) (m : Im.St) (L : Nat → Value) (w : World) (hM : Ms s inp n bb bF cF base m k L w) (hl2 : m.stk.length ≤ 100) (hl : 0 < m.stk.length) (hc : m.cal.length ≤ 100) (hw : 16 ≤ Im.top m.stk) :
    Calls Tryz.prog 96 #[.pointer (some ⟨bb, 0, none⟩), .int .u8 16] w fun e w' => FaultPost bb base 4 k m w w' e := by
  obtain ⟨f, a, pos, stk, cel, cal, edg⟩ := m
  dsimp only at *
  have HM : Hid (Ms s inp n bb bF cF base ⟨f, a, pos, stk, cel, cal, edg⟩ k L w) := hM
  clear hM
  go_enter Tryz.func96, Tryz.ntmps96
  go_wp2_with fail
  refine (pop_any s inp n bb bF cF base k _ L _ HM.out (by exact hl) hl2).mono ?_
  rintro e w1 ⟨rfl, ⟨L1, hM1⟩, h1⟩
  dsimp only at *
  clear HM
  have HM1 : Hid (Ms s inp n bb bF cF base ⟨f, a, pos, stk.take (stk.length - 1), cel, cal, edg⟩ k L1 w1) := hM1
  clear hM1
  go_wp2_with fail
  refine (fault_any s inp n bb bF cF base k 4 _ L1 _ HM1.out (by exact hc)).mono ?_
  rintro e w2 ⟨rfl, h2, h3⟩
  have HP : Hid (FaultPost bb base 4 k ⟨f, a, pos, stk, cel, cal, edg⟩ w w2 (.returned (.tuple #[]))) := ⟨rfl, h2, h1.trans h3⟩
  clear h1 h2 h3
  go_wp2
  first
    | (go_end0; exact HP.out)
    | exact bodyPost_ret (v := .tuple #[]) (by simp [results, Tryz.results96, go_sem]) rfl HP.out
set_option maxHeartbeats 3200000 in
set_option maxRecDepth 100000 in
theorem cells_load (s inp : ByteArray) (n bb bF cF base k : Nat) (m : Im.St) (L : Nat → Value) (w : World) (hM : Ms s inp n bb bF cF base m k L w) (hl2 : m.stk.length ≤ 100) (hl : 0 < m.stk.length) (hw : Im.top m.stk < 16) (hcel : ∀ i, m.cel i < 256) :
    Calls Tryz.prog 96 #[.pointer (some ⟨bb, 0, none⟩), .int .u8 15] w fun e w' => GoPost s inp n bb bF cF base { m with stk := m.stk.take (m.stk.length - 1) ++ [m.cel (Im.top m.stk)] } k w w' e := by
  obtain ⟨f, a, pos, stk, cel, cal, edg⟩ := m
  dsimp only at *
  have HM : Hid (Ms s inp n bb bF cF base ⟨f, a, pos, stk, cel, cal, edg⟩ k L w) := hM
  clear hM
  go_enter Tryz.func96, Tryz.ntmps96
  go_wp2_with fail
  refine (pop_any s inp n bb bF cF base k _ L _ HM.out (by exact hl) hl2).mono ?_
  rintro e w1 ⟨rfl, ⟨L1, hM1⟩, h1⟩
  dsimp only at *
  clear HM
  have kc := hM1.kc (Im.top stk) hw
  dsimp only at kc
  have HM1 : Hid (Ms s inp n bb bF cF base ⟨f, a, pos, stk.take (stk.length - 1), cel, cal, edg⟩ k L1 w1) := hM1
  have hcx := hcel (Im.top stk)
  have hll : (stk.take (stk.length - 1)).length ≤ 100 := by have := List.length_take_le (stk.length - 1) stk; omega
  clear hM1 hcel
  go_wp2_with fail
  refine (push_any s inp n bb bF cF base k _ L1 _ (cel (Im.top stk)) _ HM1.out (by exact hll) (by omega)).mono ?_
  rintro e w2 ⟨rfl, h2, h3⟩
  have HP : Hid (GoPost s inp n bb bF cF base ⟨f, a, pos, stk.take (stk.length - 1) ++ [cel (Im.top stk)], cel, cal, edg⟩ k w w2 (.returned (.tuple #[]))) := ⟨rfl, h2, h1.trans h3⟩
  clear h1 h2 h3
  go_wp2
  go_end0
  exact HP.out
set_option maxHeartbeats 3200000 in
set_option maxRecDepth 100000 in
theorem cells_store (s inp : ByteArray) (n bb bF cF base k : Nat) (m : Im.St) (L : Nat → Value) (w : World) (hM : Ms s inp n bb bF cF base m k L w) (hl2 : m.stk.length ≤ 100) (hl : 0 < m.stk.length) (hl3 : 2 ≤ m.stk.length) (hw : Im.top m.stk < 16) :
    Calls Tryz.prog 96 #[.pointer (some ⟨bb, 0, none⟩), .int .u8 16] w fun e w' => GoPost s inp n bb bF cF base { m with stk := m.stk.take (m.stk.length - 2), cel := Im.upc m.cel (Im.top m.stk) (Im.snd m.stk) } k w w' e := by
  obtain ⟨f, a, pos, stk, cel, cal, edg⟩ := m
  dsimp only at *
  have HM : Hid (Ms s inp n bb bF cF base ⟨f, a, pos, stk, cel, cal, edg⟩ k L w) := hM
  clear hM
  go_enter Tryz.func96, Tryz.ntmps96
  go_wp2_with fail
  refine (pop_any s inp n bb bF cF base k _ L _ HM.out (by exact hl) hl2).mono ?_
  rintro e w1 ⟨rfl, ⟨L1, hM1⟩, h1⟩
  dsimp only at *
  clear HM
  have HM1 : Hid (Ms s inp n bb bF cF base ⟨f, a, pos, stk.take (stk.length - 1), cel, cal, edg⟩ k L1 w1) := hM1
  have hll : (stk.take (stk.length - 1)).length = stk.length - 1 := by rw [List.length_take]; omega
  clear hM1
  go_wp2_with fail
  refine (pop_any s inp n bb bF cF base k _ L1 _ HM1.out (by show 0 < (stk.take (stk.length - 1)).length; omega) (by show (stk.take (stk.length - 1)).length ≤ 100; omega)).mono ?_
  rintro e w2 ⟨rfl, ⟨L2, hM2⟩, h2⟩
  dsimp only at *
  have e1 : Im.top (stk.take (stk.length - 1)) = Im.snd stk := by
    unfold Im.top Im.snd
    rw [hll, List.getElem?_take, if_pos (by omega)]
    rfl
  have e2 : (stk.take (stk.length - 1)).take ((stk.take (stk.length - 1)).length - 1) = stk.take (stk.length - 2) := by
    rw [hll, List.take_take]; congr 1; omega
  rw [e2] at hM2
  rw [e1]
  have kc := hM2.kc (Im.top stk) hw
  have zc := hM2.bx.frz (7 + Im.top stk)
  have HP : Hid (GoPost s inp n bb bF cF base ⟨f, a, pos, stk.take (stk.length - 2), Im.upc cel (Im.top stk) (Im.snd stk), cal, edg⟩ k w (w2.setCell ⟨bb, 7 + Im.top stk, none⟩ (.int .i64 (Im.snd stk : Nat))) (.returned (.tuple #[]))) := ⟨rfl, ⟨_, hM2.setCel (Im.top stk) (Im.snd stk) hw⟩, (h1.trans h2).set _ _⟩
  clear h1 h2 hM2 e1 e2 HM1 hll
  dsimp only at *
  go_wp2
  go_end0
  exact HP.out
end Go.Proofs.YtbmaiioecnmopaaGreatDoor

/-
  THE DOCUMENT's SIDE (package triageref): Step. By the verifier of the loop 'triage'.
-/
namespace Go.Proofs.YtbmaiioecnmopaaGreatDoor
open Go.RowKit

/-- what holds of the machine's state ahead of each step. -/
structure Inv (s inp : ByteArray) (n : Nat) (m : Im.St) : Prop where
  hs : s.size ≤ 200
  hin : inp.size ≤ 24
  hf : m.fn < n
  ha : m.at_ < s.size
  hz : m.at_ + Im.sz (Im.bt s m.at_) ≤ s.size
  h1 : 1 ≤ Im.sz (Im.bt s m.at_)
  hl : m.stk.length ≤ 16
  hv : ∀ x, x ∈ m.stk → x < 256
  hc : ∀ i, m.cel i < 256
  hcl : m.cal.length ≤ 8
  hcv : ∀ c, c ∈ m.cal → c.1 < n ∧ c.2 ≤ 200
  hp : m.pos ≤ inp.size
  hst : ∀ f, f < n → Im.st s f ≤ 200
  hcall : Im.bt s m.at_ = 12 → Im.bt s (m.at_ + 1) < n

/-- how a step ends. -/
def StepPost (s inp : ByteArray) (n bb bF cF base : Nat) (m : Im.St) (k : Nat) (w w' : World) (e : Ending) : Prop :=
  e = .returned (.tuple #[]) ∧ Kx base bb w w' ∧
    (((Im.stepP s inp m).2 = 0 ∧ ∃ L', Ms s inp n bb bF cF base (Im.stepP s inp m).1 (k + 1) L' w') ∨
     ((Im.stepP s inp m).2 = 10 ∧ ∃ L', Dn bb base 0 0 0 0 (k + 1) (topI m.stk) [] m.edg L' w') ∨
     ((Im.stepP s inp m).2 ≠ 0 ∧ (Im.stepP s inp m).2 ≠ 10 ∧ ∃ L', Dn bb base 1 (Im.stepP s inp m).2 m.fn m.at_ (k + 1) (-1) m.cal.reverse m.edg L' w'))
theorem step_go {s inp : ByteArray} {n bb bF cF base : Nat} {m m' : Im.St} {k : Nat} {w w1 w' : World} {e : Ending} (hS : Im.stepP s inp m = (m', 0)) (hK : Kx base bb w w1) (h : GoPost s inp n bb bF cF base m' (k + 1) w1 w' e) : StepPost s inp n bb bF cF base m k w w' e :=
  ⟨h.1, hK.trans h.2.2, Or.inl ⟨by rw [hS], by rw [hS]; exact h.2.1⟩⟩
theorem step_end {s inp : ByteArray} {n bb bF cF base : Nat} {m : Im.St} {k : Nat} {w w1 w' : World} {e : Ending} (hS : Im.stepP s inp m = (m, 10)) (hK : Kx base bb w w1) (h : EndPost bb base (k + 1) m w1 w' e) : StepPost s inp n bb bF cF base m k w w' e :=
  ⟨h.1, hK.trans h.2.2, Or.inr (Or.inl ⟨by rw [hS], h.2.1⟩)⟩
theorem step_fault {s inp : ByteArray} {n bb bF cF base kd : Nat} {m : Im.St} {k : Nat} {w w1 w' : World} {e : Ending} (hS : Im.stepP s inp m = (m, kd)) (h0 : kd ≠ 0) (h10 : kd ≠ 10) (hK : Kx base bb w w1) (h : FaultPost bb base kd (k + 1) m w1 w' e) : StepPost s inp n bb bF cF base m k w w' e :=
  ⟨h.1, hK.trans h.2.2, Or.inr (Or.inr ⟨by rw [hS]; exact h0, by rw [hS]; exact h10, by rw [hS]; exact h.2.1⟩)⟩
end Go.Proofs.YtbmaiioecnmopaaGreatDoor

/-
  THE DOCUMENT's SIDE (package triageref): Step, op by op. By the verifier of the loop 'triage'.
-/
namespace Go.Proofs.YtbmaiioecnmopaaGreatDoor
open Go.RowKit

theorem quiet_at {P : Program} {f : FuncId} {args : Array Value} {w : World} {v : Value} {R : World → Prop} (hR : R w) (h : Calls P f args w fun e w' => e = .returned v ∧ w = w') : Calls P f args w fun e w'' => e = .returned v ∧ R w'' :=
  h.mono fun _ _ ⟨he, hw⟩ => ⟨he, by rw [← hw]; exact hR⟩

set_option maxHeartbeats 3200000 in
set_option maxRecDepth 100000 in
theorem step_17 (s inp : ByteArray) (n bb bF cF base k : Nat) (m : Im.St) (L : Nat → Value) (w : World) (hM : Ms s inp n bb bF cF base m k L w) (hI : Inv s inp n m) (hk : k ≤ 100000) (hop : Im.bt s m.at_ = 17) :
    Calls Tryz.prog 57 #[.pointer (some ⟨bb, 0, none⟩)] w fun e w' => StepPost s inp n bb bF cF base m k w w' e := by
  have HS : Hid (Im.stepP s inp m = (m, 5)) := by
    have := hI.hl
    show Im.stepP s inp m = _
    unfold Im.stepP
    rw [hop]
    rw [if_neg (by simp [Im.tk]), if_neg (by simp [Im.tk, Im.psh]; omega)]
    simp
  have k0 := hM.k0
  have k5 := hM.k5
  have k30 := hM.k30
  have z30 := hM.bx.frz 30
  have ha := hI.ha
  have hs := hI.hs
  have hl := hI.hl
  have hcl := hI.hcl
  obtain ⟨ao, cap, hv6, hnc, hcm, -⟩ := owns_shape hM.rs
  have c6 := hM.bx.cell 6 (by omega)
  rw [hv6] at c6
  have hb := (Im.bt_eq s m.at_ ha).trans hop
  have HM1 : Hid (∀ q, Ms s inp n bb bF cF base m (k + 1) (updV L 30 (.int .i64 (k + 1 : Nat))) ((w.drewN q).setCell ⟨bb, 30, none⟩ (.int .i64 ((k : Int) + 1)))) := fun q => by
    have := (hM.drewN q).setSteps (k + 1)
    rw [cast_add] at this
    exact this
  have HK1 : Hid (∀ q, Kx base bb w ((w.drewN q).setCell ⟨bb, 30, none⟩ (.int .i64 ((k : Int) + 1)))) := fun q => ((Kx.refl base bb w).drewN q).set _ _
  clear hM hI hv6 hop
  obtain ⟨f, a, pos, stk, cel, cal, edg⟩ := m
  dsimp only at *
  have ht : Im.tk 17 = 0 := rfl
  have hp : Im.psh 17 = 0 := rfl
  go_enter Tryz.func57, Tryz.ntmps57
  go_wp2
  go_quiet (fail)
  go_wp2
  go_quiet ((go_at_call 87; exact quiet_same (takes_any 17 _ (by decide))))
  go_wp2
  go_quiet ((first | (go_at_call 87; exact quiet_at ⟨_, rfl⟩ (takes_any 17 _ (by decide))) | (go_at_call 89; exact quiet_at ⟨_, rfl⟩ (pushes_any 17 _ (by decide)))))
  go_wp2_with fail
  refine (fault_any s inp n bb bF cF base (k + 1) 5 _ _ _ ((HM1.out _).drewN _) (by show cal.length ≤ 100; omega)).mono ?_
  rintro e w1 h1
  have he := h1.1
  have HP : Hid (StepPost s inp n bb bF cF base ⟨f, a, pos, stk, cel, cal, edg⟩ k w w1 e) := step_fault HS.out (by decide) (by decide) ((HK1.out _).drewN _) h1
  subst he
  clear h1
  go_wp2
  first
    | (go_end0; exact HP.out)
    | exact bodyPost_ret (v := .tuple #[]) (by simp [results, Tryz.results57, go_sem]) rfl HP.out
end Go.Proofs.YtbmaiioecnmopaaGreatDoor
