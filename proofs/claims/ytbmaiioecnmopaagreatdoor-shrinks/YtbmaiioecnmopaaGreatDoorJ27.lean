/-
  MacL, MacM, MacP, MacQ: THESE TEXTS, JOINED. By the verifier of the loop 'triage'.
-/
import Derived.Test.YtbmaiioecnmopaaGreatDoorJ24
import Derived.Test.YtbmaiioecnmopaaGreatDoorJ17
import Derived.Test.YtbmaiioecnmopaaGreatDoorJ18
import Derived.Test.YtbmaiioecnmopaaGreatDoorJ19
import Derived.Test.YtbmaiioecnmopaaGreatDoorJ20
import Derived.Test.YtbmaiioecnmopaaGreatDoorJ21
import Derived.Test.YtbmaiioecnmopaaGreatDoorJ22
import Derived.Test.YtbmaiioecnmopaaGreatDoorJ23
import Derived.Test.YtbmaiioecnmopaaGreatDoorJ25
import Derived.Test.YtbmaiioecnmopaaGreatDoorJ26
import Derived.Test.YtbmaiioecnmopaaGreatDoorJ07
import Derived.Deep.MidRow
import Derived.Test.YtbmaiioecnmopaaGreatDoorJ08
/-
  THE PROGRAM's SIDE (package triage): step: UNDER. By the verifier of the loop 'triage'.
-/
namespace Go.Proofs.YtbmaiioecnmopaaGreatDoor
open Go.RowKit

set_option maxHeartbeats 6400000 in
set_option maxRecDepth 100000 in
theorem cstep_under (s inp : ByteArray) (n mb bs bc cs base : Nat) (m : Im.St) (L : Nat → Value) (w : World) (hM : Mc s inp n mb bs bc cs base m false L w) (hI : Iv s inp n m) (hU : m.stk.length < Im.tk (Im.bt s m.at_)) :
    Calls Tryz.prog 47 #[.pointer (some ⟨mb, 0, none⟩)] w fun e w' => CStep s inp n mb bs bc cs base m w w' e := by
  have HS : Hid (Im.stepP s inp m = (m, 1)) := by
    show Im.stepP s inp m = _
    unfold Im.stepP
    rw [if_pos hU]
  have k0 := hM.bx.cell 0 (by omega)
  have k1 := hM.bx.cell 1 (by omega)
  have k3 := hM.bx.cell 3 (by omega)
  have k5 := hM.bx.cell 5 (by omega)
  rw [hM.lm.l0] at k0
  rw [hM.lm.l1] at k1
  rw [hM.lm.l3] at k3
  obtain ⟨a5, cap5, hv5, -, hcm5, -⟩ := owns_shape hM.rs
  rw [hv5] at k5
  have d0 := hM.mf.c0 m.at_ hI.hD
  have d1 := hM.mf.c1 m.at_ hI.hD
  have d2 := hM.mf.c2 m.at_ hI.hD
  have d3 := hM.mf.c3 m.at_ hI.hD
  have ha := hI.ha
  have hs := hI.hs
  have hl := hI.hl
  have hlt := hM.bx.lt
  have hltc : bc < w.heap.size := by have := hM.mf.hbc; have := hM.mf.hba; omega
  have htl : Im.tk (Im.bt s m.at_) ≤ 2 := by unfold Im.tk; split <;> (try split) <;> omega
  have HP : Hid (∀ o q, CStep s inp n mb bs bc cs base m w (((w.alloc o).drewN 1).drewN q) (.returned (.int .i64 1))) := fun o q => cst_fault HS.out (by decide) (by decide) (((((Kp.refl mb w L).alloc o).drewN 1).drewN q).kx hM) (((hM.alloc o).drewN 1).drewN q) rfl rfl rfl rfl
  clear hM hI hv5 HS
  obtain ⟨f, a, pos, stk, cel, cal, edg⟩ := m
  dsimp only at *
  generalize ar s a = g3 at *
  generalize Im.tk (Im.bt s a) = tk at *
  generalize Im.sz (Im.bt s a) = sz at *
  generalize Im.bt s a = op at *
  go_enter Tryz.func47, Tryz.ntmps47
  go_wp2_with fail
  go_region
  go_wp2_with fail
  go_quiet (fail)
  go_wp2_with fail
  go_ret
  exact HP.out _ _
end Go.Proofs.YtbmaiioecnmopaaGreatDoor

/-
  THE PROGRAM's SIDE (package triage): ONE STEP, whatever the op. By the verifier of the loop 'triage'.
-/
namespace Go.Proofs.YtbmaiioecnmopaaGreatDoor
open Go.RowKit

theorem psh_tk {op l : Nat} (hl : l ≤ 16) (h : op = 0 ∨ op = 2 ∨ op = 10 ∨ op = 11 ∨ op = 12 ∨ op = 16 ∨ op = 17 ∨ (4 ≤ op ∧ op ≤ 9) ∨ op = 15) (hT : ¬ l < Im.tk op) : ¬ 16 < l - Im.tk op + Im.psh op := by
  unfold Im.tk at hT ⊢
  unfold Im.psh
  repeat' split at hT
  all_goals repeat' split
  all_goals omega

/-- ONE STEP of the program's machine, whatever the op. -/
theorem cstep_any (s inp : ByteArray) (n mb bs bc cs base : Nat) (m : Im.St) (L : Nat → Value) (w : World) (hM : Mc s inp n mb bs bc cs base m false L w) (hI : Iv s inp n m) :
    Calls Tryz.prog 47 #[.pointer (some ⟨mb, 0, none⟩)] w fun e w' => CStep s inp n mb bs bc cs base m w w' e := by
  by_cases hU : m.stk.length < Im.tk (Im.bt s m.at_)
  · exact cstep_under s inp n mb bs bc cs base m L w hM hI hU
  have h17 : Im.bt s m.at_ ≤ 17 := by
    have h1 := hI.h1
    unfold Im.sz at h1
    split at h1
    · omega
    · omega
  have hl := hI.hl
  rcases (show Im.bt s m.at_ = 0 ∨ Im.bt s m.at_ = 1 ∨ Im.bt s m.at_ = 2 ∨ Im.bt s m.at_ = 3 ∨ Im.bt s m.at_ = 4 ∨ Im.bt s m.at_ = 5 ∨ Im.bt s m.at_ = 6 ∨ Im.bt s m.at_ = 7 ∨ Im.bt s m.at_ = 8 ∨ Im.bt s m.at_ = 9 ∨ Im.bt s m.at_ = 10 ∨ Im.bt s m.at_ = 11 ∨ Im.bt s m.at_ = 12 ∨ Im.bt s m.at_ = 13 ∨ Im.bt s m.at_ = 14 ∨ Im.bt s m.at_ = 15 ∨ Im.bt s m.at_ = 16 ∨ Im.bt s m.at_ = 17 by omega) with h | h | h | h | h | h | h | h | h | h | h | h | h | h | h | h | h | h
  all_goals rw [h] at hU
  · have hO := psh_tk hl (by decide) hU
    by_cases hx : m.cal.length = 0
    · exact cstep_0a s inp n mb bs bc cs base m L w hM hI h hU hO hx
    · exact cstep_0b s inp n mb bs bc cs base m L w hM hI h hU hO (by omega)
  · by_cases hO : 16 < m.stk.length - Im.tk 1 + Im.psh 1
    · exact cstep_1o s inp n mb bs bc cs base m L w hM hI h hU hO
    · exact cstep_1 s inp n mb bs bc cs base m L w hM hI h hU hO
  · exact cstep_2 s inp n mb bs bc cs base m L w hM hI h hU (psh_tk hl (by decide) hU)
  · by_cases hO : 16 < m.stk.length - Im.tk 3 + Im.psh 3
    · exact cstep_3o s inp n mb bs bc cs base m L w hM hI h hU hO
    · exact cstep_3 s inp n mb bs bc cs base m L w hM hI h hU hO
  · exact cstep_4 s inp n mb bs bc cs base m L w hM hI h hU (psh_tk hl (by decide) hU)
  · exact cstep_5 s inp n mb bs bc cs base m L w hM hI h hU (psh_tk hl (by decide) hU)
  · exact cstep_6 s inp n mb bs bc cs base m L w hM hI h hU (psh_tk hl (by decide) hU)
  · have hO := psh_tk hl (by decide) hU
    by_cases hx : Im.top m.stk = 0
    · exact cstep_7z s inp n mb bs bc cs base m L w hM hI h hU hO hx
    · exact cstep_7 s inp n mb bs bc cs base m L w hM hI h hU hO hx
  · exact cstep_8 s inp n mb bs bc cs base m L w hM hI h hU (psh_tk hl (by decide) hU)
  · exact cstep_9 s inp n mb bs bc cs base m L w hM hI h hU (psh_tk hl (by decide) hU)
  · exact cstep_10 s inp n mb bs bc cs base m L w hM hI h hU (psh_tk hl (by decide) hU)
  · have hO := psh_tk hl (by decide) hU
    by_cases hx : Im.top m.stk = 0
    · exact cstep_11a s inp n mb bs bc cs base m L w hM hI h hU hO hx
    · exact cstep_11b s inp n mb bs bc cs base m L w hM hI h hU hO hx
  · have hO := psh_tk hl (by decide) hU
    by_cases hx : 8 ≤ m.cal.length
    · exact cstep_12a s inp n mb bs bc cs base m L w hM hI h hU hO hx
    · exact cstep_12b s inp n mb bs bc cs base m L w hM hI h hU hO (by omega)
  · by_cases hO : 16 < m.stk.length - Im.tk 13 + Im.psh 13
    · by_cases hx : m.pos < inp.size
      · exact cstep_13ao s inp n mb bs bc cs base m L w hM hI h hU hO hx
      · exact cstep_13bo s inp n mb bs bc cs base m L w hM hI h hU hO hx
    · by_cases hx : m.pos < inp.size
      · exact cstep_13a s inp n mb bs bc cs base m L w hM hI h hU hO hx
      · exact cstep_13b s inp n mb bs bc cs base m L w hM hI h hU hO hx
  · by_cases hO : 16 < m.stk.length - Im.tk 14 + Im.psh 14
    · by_cases hx : m.pos < inp.size
      · exact cstep_14ao s inp n mb bs bc cs base m L w hM hI h hU hO hx
      · exact cstep_14bo s inp n mb bs bc cs base m L w hM hI h hU hO hx
    · by_cases hx : m.pos < inp.size
      · exact cstep_14a s inp n mb bs bc cs base m L w hM hI h hU hO hx
      · exact cstep_14b s inp n mb bs bc cs base m L w hM hI h hU hO hx
  · have hO := psh_tk hl (by decide) hU
    by_cases hx : 16 ≤ Im.top m.stk
    · exact cstep_15a s inp n mb bs bc cs base m L w hM hI h hU hO hx
    · exact cstep_15b s inp n mb bs bc cs base m L w hM hI h hU hO (by omega)
  · have hO := psh_tk hl (by decide) hU
    by_cases hx : 16 ≤ Im.top m.stk
    · exact cstep_16a s inp n mb bs bc cs base m L w hM hI h hU hO hx
    · exact cstep_16b s inp n mb bs bc cs base m L w hM hI h hU hO (by omega)
  · exact cstep_17 s inp n mb bs bc cs base m L w hM hI h
end Go.Proofs.YtbmaiioecnmopaaGreatDoor

/-
  THE PROGRAM's SIDE (package triage): passed. By the verifier of the loop 'triage'.
-/
namespace Go.Proofs.YtbmaiioecnmopaaGreatDoor
open Go.RowKit

theorem Tryz.infoEdges : (Tryz.prog.info? 122).map (·.size) = some 400 := by kernel_rfl
theorem Tryz.undEdges : Tryz.prog.underlying 122 = some (.array 400 4) := by kernel_rfl
theorem Tryz.infoBool : (Tryz.prog.info? 4).map (fun i => (i.zero, i.size, i.bytes)) = some (some (.bool false), 1, 1) := by kernel_rfl

/-- the edges in memory. -/
def ebs (E : Nat → Bool) : List Value := (List.range 400).map fun i => .bool (E i)
theorem ebs_len (E : Nat → Bool) : (ebs E).length = 400 := by simp [ebs]
theorem ebs_get (E : Nat → Bool) (k : Nat) (h : k < 400) : (ebs E)[k]? = some (.bool (E k)) := by simp [ebs, h]
theorem index_any (E : Nat → Bool) (k : Nat) (hk : k < 400) (w : World) : (Instr.index 122 (.agg (ebs E).toArray) (.int .i64 (k : Int))).run Tryz.prog w = .ok (.bool (E k)) w := by
  have hp : ((ebs E).toArray)[k]? = some (.bool (E k)) := by simpa using ebs_get E k hk
  unfold Instr.index
  simp [Sem.run_bind, run_underlying Tryz.undEdges, asIntOf]
  rw [if_pos hk]
  have hA : ∀ w : World, (isAgg 4).run Tryz.prog w = .ok false w := fun _ => by kernel_rfl
  unfold part
  simp [Sem.run_bind, hA, hp]
theorem elLo_succ (E : Nat → Bool) (j : Nat) : Im.elLo E (j + 1) = Im.elLo E j ++ (if E j then [j] else []) := by
  unfold Im.elLo
  rw [List.range_succ, List.filter_append, List.filter_cons]
  rfl
theorem elLo_len (E : Nat → Bool) (j : Nat) : (Im.elLo E j).length ≤ j := by
  have := List.length_filter_le E (List.range j)
  simpa [Im.elLo] using this
set_option maxHeartbeats 3200000 in
set_option maxRecDepth 100000 in
theorem cpassed_any (mb : Nat) (E : Nat → Bool) (w : World) (hc : ∀ i, i < 400 → w.cell? ⟨mb, 23 + i, none⟩ = some (.bool (E i))) :
    Calls Tryz.prog 51 #[.pointer (some ⟨mb, 0, none⟩)] w fun e w' => ∃ v, e = .returned v ∧ w'.ownsRow w.heap.size 3 1 v (Im.el E).length (ints (Im.el E)) ∧ Below w.heap.size w w' := by
  obtain ⟨i0, hi, hz0, hz1, hz2⟩ := info_parts Tryz.infoInt
  have hr : w.rangeAt mb 23 (ebs E) := fun j v hv => by
    have hj : j < 400 := by have := (List.getElem?_eq_some_iff.1 hv).1; rwa [ebs_len] at this
    rw [ebs_get E j hj] at hv
    simp at hv; subst hv
    exact hc j hj
  clear hc
  go_enter Tryz.func51, Tryz.ntmps51
  go_wp2
  refine wp_load_mid 122 (.tmp 8) ?l2 mb 23 ?l3 (ebs E) _ hr Tryz.undEdges rfl (by rw [ebs_len]; exact Tryz.infoEdges) ?_
  case l2 => rfl
  case l3 => rfl
  go_wp2
  go_loopw [3, 10] (fun v i wr => ∃ j : Nat, i = .int .i64 j ∧ j ≤ 400 ∧ wr.ownsRow w.heap.size 3 1 v (Im.elLo E j).length (ints (Im.elLo E j)) ∧ Below w.heap.size w wr)
    (fun _ i _ => 400 - (intOf i).toNat)
  case atStart => exact ⟨0, rfl, by omega, World.ownsRow_nil _ _ _ _, Below.refl _ _⟩
  case round =>
    obtain ⟨j, rfl, hj, hown, hb⟩ := hrel
    clear hr
    by_cases hlt : j < 400
    · have hix := index_any E j hlt
      have HL := elLo_succ E j
      have hll := elLo_len E j
      cases hE : E j
      · rw [hE] at hix HL
        simp at HL
        generalize ebs E = eb at *
        go_wp2
        go_roundw
        case rel => exact ⟨j + 1, by go_num, by omega, by rw [HL]; exact hown, hb⟩
        case measure => simp [intOf]; omega
      · rw [hE] at hix HL
        have HL2 : Hid (Im.elLo E (j + 1) = Im.elLo E j ++ [j]) := by show Im.elLo E (j + 1) = Im.elLo E j ++ [j]; simpa using HL
        clear HL
        generalize ebs E = eb at *
        generalize Im.elLo E j = X at *
        go_wp2_with (at_builtin; refine wpList_append_own _ rfl _ _ 32 rfl w.heap.size 3 i0 (.int .i64 0) 1 8 Tryz.undInts hi hz0 hz1 hz2 rfl (by decide) _ _ _ rfl (hown.alloc _) ⟨wr.heap.size, 0, none⟩ 1 1 [.int .i64 j] rfl rfl ?c1 ?c2 ?c3 ?c4 ?c5 ?_)
        case c1 =>
          intro i u hj
          match i, hj with
          | 0, hj => simp at hj; subst hj; simp [Addr.add]
        case c2 => intro u hu; simp at hu; subst hu; rfl
        case c3 => unfold maxLen; omega
        case c4 => omega
        case c5 => have := hb.size; simp; omega
        · intro v' w1 hown' hgrow _
          have hb1 := below_app hown hgrow hb hb.size
          have ho1 : w1.ownsRow w.heap.size 3 1 v' (Im.elLo E (j + 1)).length (ints (Im.elLo E (j + 1))) := by rw [HL2.out]; simpa [ints] using hown'
          clear hown' hgrow hown hb
          go_wp2
          go_roundw
          case rel => exact ⟨j + 1, by go_num, by omega, ho1, hb1⟩
          case measure => simp [intOf]; omega
    · obtain rfl : j = 400 := by omega
      generalize ebs E = eb at *
      obtain ⟨a2, cap2, hv2, -, -, -⟩ := owns_shape hown
      subst hv2
      have HO : Hid _ := hown
      have HB : Hid _ := hb
      clear hown hb
      go_wp2
      go_ret
      exact ⟨_, rfl, HO.out, HB.out⟩
end Go.Proofs.YtbmaiioecnmopaaGreatDoor

/-
  THE PROGRAM's SIDE (package triage): slices.Clone, slices.Reverse, pending, blame. By the verifier of the loop 'triage'.
-/
namespace Go.Proofs.YtbmaiioecnmopaaGreatDoor
open Go.RowKit

theorem eql_nil (w : World) : (binOp BinOp.eql 37 (.slice none 0 0) (.slice none 0 0)).run Tryz.prog w = .ok (.bool true) w := by kernel_rfl
theorem eql_some (g k cap : Nat) (w : World) : (binOp BinOp.eql 37 (.slice (some ⟨g, 0, none⟩) k cap) (.slice none 0 0)).run Tryz.prog w = .ok (.bool false) w := by kernel_rfl
theorem add0 (g j : Nat) : (⟨g, 0, none⟩ : Addr).add j = ⟨g, j, none⟩ := by simp [Addr.add]; intro e; exact e.symm
theorem prs_one (l : List (Nat × Nat)) : ∀ u ∈ prs l, u.oneCell' = true := by
  induction l with
  | nil => intro u hu; simp [prs] at hu
  | cons p r ih =>
    intro u hu
    simp [prs] at hu
    rcases hu with rfl | rfl | hu
    · rfl
    · rfl
    · exact ih u hu
set_option maxHeartbeats 1600000 in
set_option maxRecDepth 100000 in
theorem clone_any (base : Nat) (v : Value) (l : List (Nat × Nat)) (w : World) (ho : w.ownsRow base 34 2 v l.length (prs l)) (hl : l.length ≤ 8) :
    Calls Tryz.prog 79 #[v] w fun e w' => ∃ v', e = .returned v' ∧ w'.ownsRow w.heap.size 34 2 v' l.length (prs l) ∧ Below w.heap.size w w' := by
  obtain ⟨i0, hi, hz0, hz1, hz2⟩ := info_parts Tryz.infoPSite
  obtain ⟨hlen, ⟨hv, h0⟩ | ⟨g, cap, cur, hv, hbg, hg, hnc, hcm, hcs, htake⟩⟩ := ho
  · subst hv
    have hl0 : l = [] := List.eq_nil_of_length_eq_zero h0
    subst hl0
    have he := eql_nil
    go_enter Tryz.func79, Tryz.ntmps79
    go_wp2
    go_ret
    exact ⟨_, rfl, World.ownsRow_nil _ _ _ _, Below.refl _ _⟩
  · subst hv
    have he := eql_some g l.length cap
    have hcell : ∀ j u, (prs l)[j]? = some u → w.cell? ⟨g, j, none⟩ = some u := by
      intro j u hj
      have h1 : (cur.toList.take (l.length * 2))[j]? = some u := by rw [htake]; exact hj
      have h2 : j < l.length * 2 := by
        have := (List.getElem?_eq_some_iff.1 hj).1
        omega
      rw [List.getElem?_take_of_lt h2] at h1
      exact cell_of_heap hg (by simpa using h1)
    have hgl : g < w.heap.size := (Array.getElem?_eq_some_iff.1 hg).1
    clear htake hcs hg hbg
    have hown : (w.alloc (.cells #[] 34)).ownsRow w.heap.size 34 2 (.slice (some ⟨w.heap.size, 0, none⟩) 0 0) 0 [] := World.ownsRow_lit (base := w.heap.size) w #[] 0 (Nat.le_refl _) (by unfold maxLen; omega) rfl
    go_enter Tryz.func79, Tryz.ntmps79
    go_wp2_with (at_builtin; refine wpList_append_own _ rfl _ _ 37 rfl w.heap.size 34 i0 (.agg #[.int .i64 0, .int .i64 0]) 2 16 Tryz.undPSites hi hz0 hz1 hz2 rfl (by decide) _ _ _ rfl hown ⟨g, 0, none⟩ l.length cap (prs l) rfl hlen ?c1 ?c2 ?c3 ?c4 ?c5 ?_)
    case c1 =>
      intro j u hj
      have ha : (⟨g, 0, none⟩ : Addr).add j = ⟨g, j, none⟩ := by simp [Addr.add]; intro e; exact e.symm
      rw [ha]
      exact (World.cell?_alloc_lt _ _ ⟨g, j, none⟩ hgl).trans (hcell j u hj)
    case c2 => exact prs_one l
    case c3 => unfold maxLen; omega
    case c4 => omega
    case c5 => simp
    · intro v' w1 hown' hgrow _
      have hb1 : Below w.heap.size w w1 := ⟨hgrow.os, hgrow.tape, hgrow.output, by have := hgrow.size; simp at this; omega, fun k hk => (hgrow.block k (by simp; omega) (by simp [Value.ownBlock]; omega)).trans (Below.heap_alloc _ _ _ hk)⟩
      have HO : Hid (w1.ownsRow w.heap.size 34 2 v' l.length (prs l)) := hown'
      clear hown' hgrow hown
      go_wp2
      go_ret
      exact ⟨_, rfl, HO.out, hb1⟩

set_option maxHeartbeats 1600000 in
set_option maxRecDepth 100000 in
theorem blame_any (b f a : Nat) (kd : Int) (w : World) (u0 u1 u2 : Value) (hb : b < w.heap.size) (c0 : w.cell? ⟨b, 0, none⟩ = some u0) (c1 : w.cell? ⟨b, 1, none⟩ = some u1) (c2 : w.cell? ⟨b, 2, none⟩ = some u2) (z0 : w.frozen? ⟨b, 0, none⟩ = false) (z1 : w.frozen? ⟨b, 1, none⟩ = false) (z2 : w.frozen? ⟨b, 2, none⟩ = false) :
    Calls Tryz.prog 48 #[.pointer (some ⟨b, 0, none⟩), .agg #[.int .i64 (f : Nat), .int .i64 (a : Nat)], .int .i64 kd] w fun e w' => e = .returned (.tuple #[]) ∧ w' = (((w.setCell ⟨b, 0, none⟩ (.int .i64 (f : Nat))).setCell ⟨b, 1, none⟩ (.int .i64 (a : Nat))).setCell ⟨b, 2, none⟩ (.int .i64 kd)).alloc (.cells #[.int .i64 (f : Nat), .int .i64 (a : Nat)] 34) := by
  go_enter Tryz.func48, Tryz.ntmps48
  go_wp2
  go_end0
  exact ⟨rfl, rfl⟩

theorem prs_at (l : List (Nat × Nat)) : ∀ (k : Nat) (p : Nat × Nat), l[k]? = some p → (prs l)[k * 2]? = some (.int .i64 (p.1 : Nat)) ∧ (prs l)[k * 2 + 1]? = some (.int .i64 (p.2 : Nat)) := by
  induction l with
  | nil => intro k p h; simp at h
  | cons a r ih =>
    intro k p h
    cases k with
    | zero => simp at h; subst h; exact ⟨rfl, rfl⟩
    | succ k =>
      have := ih k p (by simpa using h)
      rw [show (k + 1) * 2 = (k * 2) + 1 + 1 by omega, show (k * 2) + 1 + 1 + 1 = (k * 2 + 1) + 1 + 1 by omega]
      exact this
/-- a list whose first i and last i are put the other way round. -/
def rv (l : List (Nat × Nat)) (i : Nat) : List (Nat × Nat) := (List.range l.length).map fun k => l[if k < i ∨ l.length < k + 1 + i then l.length - 1 - k else k]?.getD (0, 0)
theorem rv_len (l : List (Nat × Nat)) (i : Nat) : (rv l i).length = l.length := by simp [rv]
theorem rv_get (l : List (Nat × Nat)) (i k : Nat) (h : k < l.length) : (rv l i)[k]? = some (l[if k < i ∨ l.length < k + 1 + i then l.length - 1 - k else k]?.getD (0, 0)) := by simp [rv, h]
theorem rv_zero (l : List (Nat × Nat)) : rv l 0 = l := by
  apply List.ext_getElem?
  intro k
  by_cases h : k < l.length
  · rw [rv_get l 0 k h, if_neg (by omega), List.getElem?_eq_getElem h]; rfl
  · rw [List.getElem?_eq_none (by rw [rv_len]; omega), List.getElem?_eq_none (by omega)]
theorem rv_end (l : List (Nat × Nat)) (i : Nat) (h : l.length ≤ 2 * i + 1) : rv l i = l.reverse := by
  apply List.ext_getElem?
  intro k
  by_cases hk : k < l.length
  · rw [rv_get l i k hk, List.getElem?_reverse hk]
    have e : (if k < i ∨ l.length < k + 1 + i then l.length - 1 - k else k) = l.length - 1 - k := by
      split
      · rfl
      · omega
    rw [e, List.getElem?_eq_getElem (by omega)]; rfl
  · rw [List.getElem?_eq_none (by rw [rv_len]; omega), List.getElem?_eq_none (by simp; omega)]
theorem rv_step (l : List (Nat × Nat)) (i j : Nat) (h : l.length = i + j + 1) (hij : i < j) (p q : Nat × Nat) (hp : (rv l i)[i]? = some p) (hq : (rv l i)[j]? = some q) : rv l (i + 1) = ((rv l i).set i q).set j p := by
  apply List.ext_getElem?
  intro k
  by_cases hk : k < l.length
  · rw [rv_get l (i + 1) k hk, List.getElem?_set, List.getElem?_set]
    rw [rv_get l i i (by omega)] at hp
    rw [rv_get l i j (by omega)] at hq
    rw [if_neg (by omega)] at hp hq
    simp only [List.length_set, rv_len]
    by_cases h1 : j = k
    · subst h1
      rw [if_pos rfl, if_pos hk, if_pos (by omega), show l.length - 1 - j = i by omega]
      exact hp
    · rw [if_neg h1]
      by_cases h2 : i = k
      · subst h2
        rw [if_pos rfl, if_pos hk, if_pos (by omega), show l.length - 1 - i = j by omega]
        exact hq
      · rw [if_neg h2, rv_get l i k hk]
        have e : (k < i + 1 ∨ l.length < k + 1 + (i + 1)) ↔ (k < i ∨ l.length < k + 1 + i) := by omega
        simp only [e]
  · rw [List.getElem?_eq_none (by rw [rv_len]; omega), List.getElem?_eq_none (by simp [rv_len]; omega)]
theorem prs_set (l : List (Nat × Nat)) : ∀ (k : Nat) (p : Nat × Nat), prs (l.set k p) = ((prs l).set (k * 2) (.int .i64 (p.1 : Nat))).set (k * 2 + 1) (.int .i64 (p.2 : Nat)) := by
  induction l with
  | nil => intro k p; simp [prs]
  | cons a r ih =>
    intro k p
    cases k with
    | zero => simp [prs]
    | succ k =>
      rw [List.set_cons_succ]
      show _ :: _ :: prs (r.set k p) = _
      rw [ih k p, show (k + 1) * 2 = (k * 2) + 1 + 1 by omega, show (k * 2) + 1 + 1 + 1 = (k * 2 + 1) + 1 + 1 by omega]
      rfl
theorem swapped {w : World} {B g cap len : Nat} {l : List (Nat × Nat)} (h : w.ownsRow B 34 2 (.slice (some ⟨g, 0, none⟩) len cap) len (prs l)) (i j : Nat) (p q : Nat × Nat) :
    ((((w.setCell ⟨g, i * 2, none⟩ (.int .i64 (q.1 : Nat))).setCell ⟨g, i * 2 + 1, none⟩ (.int .i64 (q.2 : Nat))).setCell ⟨g, j * 2, none⟩ (.int .i64 (p.1 : Nat))).setCell ⟨g, j * 2 + 1, none⟩ (.int .i64 (p.2 : Nat))).ownsRow B 34 2 (.slice (some ⟨g, 0, none⟩) len cap) len (prs ((l.set i q).set j p)) ∧
    w.grownBy ((((w.setCell ⟨g, i * 2, none⟩ (.int .i64 (q.1 : Nat))).setCell ⟨g, i * 2 + 1, none⟩ (.int .i64 (q.2 : Nat))).setCell ⟨g, j * 2, none⟩ (.int .i64 (p.1 : Nat))).setCell ⟨g, j * 2 + 1, none⟩ (.int .i64 (p.2 : Nat))) (some g) := by
  have h1 := h.stored (i * 2) (.int .i64 (q.1 : Nat))
  have h2 := h1.1.stored (i * 2 + 1) (.int .i64 (q.2 : Nat))
  have h3 := h2.1.stored (j * 2) (.int .i64 (p.1 : Nat))
  have h4 := h3.1.stored (j * 2 + 1) (.int .i64 (p.2 : Nat))
  rw [prs_set, prs_set]
  exact ⟨h4.1, ((h1.2.trans h2.2).trans h3.2).trans h4.2⟩

set_option maxHeartbeats 3200000 in
set_option maxRecDepth 100000 in
theorem reverse_any (B g cap : Nat) (l : List (Nat × Nat)) (w : World) (ho : w.ownsRow B 34 2 (.slice (some ⟨g, 0, none⟩) l.length cap) l.length (prs l)) (hl : l.length ≤ 8) :
    Calls Tryz.prog 80 #[.slice (some ⟨g, 0, none⟩) l.length cap] w fun e w' => e = .returned (.tuple #[]) ∧ w'.ownsRow B 34 2 (.slice (some ⟨g, 0, none⟩) l.length cap) l.length (prs l.reverse) ∧ w.grownBy w' (some g) := by
  obtain ⟨len, HLEN⟩ : ∃ len, Hid (l.length = len) := ⟨_, rfl⟩
  rw [HLEN.out] at ho hl ⊢
  have h0 : w.ownsRow B 34 2 (.slice (some ⟨g, 0, none⟩) len cap) len (prs (rv l 0)) := by rw [rv_zero]; exact ho
  clear ho
  go_enter Tryz.func80, Tryz.ntmps80
  go_wp2
  go_loopw [2, 3] (fun vi vj wr => ∃ i : Nat, vi = .int .i64 i ∧ vj = .int .i64 ((len : Int) - 1 - i) ∧ i ≤ len ∧ wr.ownsRow B 34 2 (.slice (some ⟨g, 0, none⟩) len cap) len (prs (rv l i)) ∧ w.grownBy wr (some g)) (fun vi _ _ => len - (intOf vi).toNat)
  case atStart => exact ⟨0, rfl, by simp, by omega, h0, World.grownBy.refl _ _⟩
  case round =>
    obtain ⟨i, rfl, rfl, hi, hown, hg⟩ := hrel
    clear h0
    by_cases hlt : 2 * i + 1 < len
    · obtain ⟨j, hj⟩ : ∃ j, len = i + j + 1 := ⟨len - 1 - i, by omega⟩
      have ej : (len : Int) - 1 - i = (j : Int) := by omega
      have hij : i < j := by omega
      rw [ej]
      have gi := rv_get l i i (by rw [HLEN.out]; omega)
      have gj := rv_get l i j (by rw [HLEN.out]; omega)
      obtain ⟨p, HP⟩ : ∃ p, (rv l i)[i]? = some p := ⟨_, gi⟩
      obtain ⟨q, HQ⟩ : ∃ q, (rv l i)[j]? = some q := ⟨_, gj⟩
      clear gi gj
      obtain ⟨a0, a1⟩ := prs_at (rv l i) i p HP
      obtain ⟨b0, b1⟩ := prs_at (rv l i) j q HQ
      have HR : Hid (rv l (i + 1) = ((rv l i).set i q).set j p) := rv_step l i j (by rw [HLEN.out]; exact hj) hij p q HP HQ
      have HC := hown.cells (g := g) rfl
      have x0 : wr.cell? ⟨g, i * 2, none⟩ = some (.int .i64 (p.1 : Nat)) := by rw [← add0]; exact HC _ _ a0
      have x1 : wr.cell? ⟨g, i * 2 + 1, none⟩ = some (.int .i64 (p.2 : Nat)) := by rw [← add0]; exact HC _ _ a1
      have y0 : wr.cell? ⟨g, j * 2, none⟩ = some (.int .i64 (q.1 : Nat)) := by rw [← add0]; exact HC _ _ b0
      have y1 : wr.cell? ⟨g, j * 2 + 1, none⟩ = some (.int .i64 (q.2 : Nat)) := by rw [← add0]; exact HC _ _ b1
      have z0 := hown.frozenAt (i * 2)
      have z1 := hown.frozenAt (i * 2 + 1)
      have z2 := hown.frozenAt (j * 2)
      have z3 := hown.frozenAt (j * 2 + 1)
      have HS : Hid _ := swapped hown i j p q
      have HG : Hid (w.grownBy wr (some g)) := hg
      clear HC a0 a1 b0 b1 HP HQ hown hg ej
      have hjl : j < len := by omega
      have hil : i < len := by omega
      have hne : ¬ i * 2 = j * 2 := by omega
      have hne1 : ¬ i * 2 = j * 2 + 1 := by omega
      have hne2 : ¬ i * 2 + 1 = j * 2 := by omega
      have hcond : ((i : Int) < (j : Int)) := by omega
      go_wp2
      go_region
      go_wp2
      refine ⟨⟨i + 1, by go_num, by congr 1; omega, by omega, ?_, ?_⟩, by simp [intOf]; omega⟩
      · rw [HR.out]; exact HS.out.1
      · have h := HG.out.trans HS.out.2
        exact ⟨h.os, h.tape, h.output, h.size, h.block⟩
    · have HO : Hid _ := hown
      have HG : Hid _ := hg
      have hle : ¬ (i : Int) < (len : Int) - 1 - i := by omega
      clear hown hg
      go_wp2
      go_end0
      refine ⟨rfl, ?_, HG.out⟩
      have := HO.out
      rwa [rv_end l i (by rw [HLEN.out]; omega)] at this

set_option maxHeartbeats 3200000 in
set_option maxRecDepth 100000 in
theorem reverse_nil (w : World) : Calls Tryz.prog 80 #[.slice none 0 0] w fun e w' => e = .returned (.tuple #[]) ∧ w = w' := by
  go_enter Tryz.func80, Tryz.ntmps80
  go_wp2
  go_loopw [2, 3] (fun vi vj wr => vi = .int .i64 0 ∧ vj = .int .i64 (-1) ∧ w = wr) (fun _ _ _ => 0)
  case atStart => exact ⟨rfl, rfl, rfl⟩
  case round =>
    obtain ⟨rfl, rfl, rfl⟩ := hrel
    go_wp2
    go_end0
    exact ⟨rfl, rfl⟩

set_option maxHeartbeats 3200000 in
set_option maxRecDepth 100000 in
theorem cpending_any (mb base : Nat) (v : Value) (l : List (Nat × Nat)) (w : World) (hc : w.cell? ⟨mb, 6, none⟩ = some v) (ho : w.ownsRow base 34 2 v l.length (prs l)) (hl : l.length ≤ 8) :
    Calls Tryz.prog 49 #[.pointer (some ⟨mb, 0, none⟩)] w fun e w' => ∃ v', e = .returned v' ∧ w'.ownsRow w.heap.size 34 2 v' l.length (prs l.reverse) ∧ Below w.heap.size w w' := by
  obtain ⟨a6, cap6, hv6, -, -, -⟩ := owns_shape ho
  have HO : Hid (w.ownsRow base 34 2 v l.length (prs l)) := ho
  subst hv6
  clear ho
  go_enter Tryz.func49, Tryz.ntmps49
  go_wp2_with fail
  refine (clone_any base _ l _ HO.out hl).mono ?_
  rintro e w1 ⟨v', rfl, ho1, hb1⟩
  obtain ⟨a7, cap7, hv7, hnc, hcm, -⟩ := owns_shape ho1
  subst hv7
  by_cases hn : a7 = none
  · subst hn
    obtain ⟨hlen, ⟨hv, h0⟩ | ⟨g, cap, cur, hv, _⟩⟩ := id ho1
    · have hl0 : l = [] := List.eq_nil_of_length_eq_zero h0
      subst hl0
      simp at hv
      subst hv
      go_wp2_with fail
      refine (reverse_nil _).mono ?_
      rintro e w2 ⟨rfl, rfl⟩
      have HB : Hid _ := hb1
      clear hb1 ho1
      go_wp2_with fail
      go_ret
      exact ⟨_, rfl, World.ownsRow_nil _ _ _ _, HB.out⟩
    · simp at hv
  · obtain ⟨g, rfl⟩ : ∃ g, a7 = some ⟨g, 0, none⟩ := by
      obtain ⟨_, ⟨hv, _⟩ | ⟨g, cap, cur, hv, _⟩⟩ := id ho1
      · simp at hv; exact absurd hv.1 hn
      · simp at hv; exact ⟨g, hv.1⟩
    have hgl := ho1.lt g rfl
    clear hn
    go_wp2_with fail
    refine (reverse_any w.heap.size g cap7 l _ ho1 hl).mono ?_
    rintro e w2 ⟨rfl, ho2, hg2⟩
    have HO2 : Hid _ := ho2
    have HB : Hid (Below w.heap.size w w2) := hb1.grown hg2 hb1.size (fun j hj => by simp at hj; omega)
    clear ho1 hb1 ho2 hg2
    go_wp2_with fail
    go_ret
    exact ⟨_, rfl, HO2.out, HB.out⟩
end Go.Proofs.YtbmaiioecnmopaaGreatDoor
