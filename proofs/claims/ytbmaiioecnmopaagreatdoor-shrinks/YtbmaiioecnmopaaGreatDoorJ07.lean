/-
  RefQ, RefR, RefS, PureI, PureJ: THESE TEXTS, JOINED. By the verifier of the loop 'triage'.
-/
import Derived.Test.YtbmaiioecnmopaaGreatDoorJ06
/-
  THE DOCUMENT's SIDE (package triageref): fault. By the verifier of the loop 'triage'.
-/
namespace Go.Proofs.YtbmaiioecnmopaaGreatDoor
open Go.RowKit

theorem Tryz.infoSite : (Tryz.prog.info? 86).map (fun i => (i.zero, i.size, i.bytes)) = some (some (.agg #[.int .i64 0, .int .i64 0]), 2, 16) := by kernel_rfl
theorem Tryz.undSites : Tryz.prog.underlying 49 = some (.slice 86) := by kernel_rfl

/-- THE REPORT in the machine's struct, when the run is over. -/
structure Dn (bb base en kd fa pa k : Nat) (top : Int) (sts : List (Nat × Nat)) (E : Nat → Bool) (L : Nat → Value) (w : World) : Prop where
  bx : Bx bb 33 L w
  l24 : L 24 = .int .i64 (en : Nat)
  l25 : L 25 = .int .i64 (fa : Nat)
  l26 : L 26 = .int .i64 (pa : Nat)
  l27 : L 27 = .int .i64 (kd : Nat)
  r28 : w.ownsRow base 86 2 (L 28) sts.length (prs sts)
  re : w.ownsRow base 3 1 (L 29) (Im.el E).length (ints (Im.el E))
  l30 : L 30 = .int .i64 (k : Nat)
  l31 : L 31 = .int .i64 top
  l32 : L 32 = .bool true

theorem prs_get (l : List (Nat × Nat)) : ∀ j, j < l.length → (prs l)[j * 2]? = some (.int .i64 ((l[j]?.getD (0, 0)).1 : Nat)) ∧ (prs l)[j * 2 + 1]? = some (.int .i64 ((l[j]?.getD (0, 0)).2 : Nat)) := by
  induction l with
  | nil => intro j h; simp at h
  | cons p r ih =>
    intro j h
    cases j with
    | zero => simp [prs]
    | succ j =>
      have := ih j (by simpa using h)
      rw [show (j + 1) * 2 = j * 2 + 1 + 1 by omega]
      simpa [prs] using this
theorem drop_rev (l : List (Nat × Nat)) (j : Nat) (h : j < l.length) : (l.drop j).reverse = (l.drop (j + 1)).reverse ++ [l[j]?.getD (0, 0)] := by
  rw [List.drop_eq_getElem_cons h, List.reverse_cons, List.getElem?_eq_getElem h]; rfl

/-- how fault ends. -/
def FaultPost (bb base kd k : Nat) (m : Im.St) (w w' : World) (e : Ending) : Prop :=
  e = .returned (.tuple #[]) ∧ (∃ L', Dn bb base 1 kd m.fn m.at_ k (-1) m.cal.reverse m.edg L' w') ∧ Kx base bb w w'

/-- what holds at the head of each round of fault's loop. -/
structure Fl (bb base kd k j : Nat) (m : Im.St) (v23 : Value) (L : Nat → Value) (w : World) : Prop where
  bx : Bx bb 33 L w
  l23 : L 23 = v23
  rc : w.ownsRow base 86 2 v23 m.cal.length (prs m.cal)
  l24 : L 24 = .int .i64 1
  l25 : L 25 = .int .i64 (m.fn : Nat)
  l26 : L 26 = .int .i64 (m.at_ : Nat)
  l27 : L 27 = .int .i64 (kd : Nat)
  r28 : w.ownsRow base 86 2 (L 28) (m.cal.drop j).reverse.length (prs (m.cal.drop j).reverse)
  d28 : (L 28).ownBlock = none ∨ (L 28).ownBlock ≠ v23.ownBlock
  re : w.ownsRow base 3 1 (L 29) (Im.el m.edg).length (ints (Im.el m.edg))
  l30 : L 30 = .int .i64 (k : Nat)
  l31 : L 31 = .int .i64 (-1)
  l32 : L 32 = .bool true
  hbb : bb < base
  hba : base ≤ w.heap.size

theorem owns_setb {w : World} {base bb : Nat} {e : TypeId} {size : Nat} {x : Value} {q : Nat} {xs : List Value} {o : Nat} {v : Value} (h : w.ownsRow base e size x q xs) (hb : bb < base) : (w.setCell ⟨bb, o, none⟩ v).ownsRow base e size x q xs := ownsRow_setCell_below h (by exact hb) _
theorem owns_drewN {w : World} {base : Nat} {e : TypeId} {size : Nat} {x : Value} {q : Nat} {xs : List Value} {k : Nat} (h : w.ownsRow base e size x q xs) : (w.drewN k).ownsRow base e size x q xs := h
theorem size_setb (w : World) (bb o : Nat) (v : Value) : (w.setCell ⟨bb, o, none⟩ v).heap.size = w.heap.size := by simp
theorem Fl.start {s inp : ByteArray} {n bb bF cF base k kd : Nat} {m : Im.St} {L : Nat → Value} {w : World} (hM : Ms s inp n bb bF cF base m k L w) (q : Nat) :
    ∃ L', Fl bb base kd k m.cal.length m (L 23) L' ((((((w.setCell ⟨bb, 32, none⟩ (.bool true)).setCell ⟨bb, 24, none⟩ (.int .i64 1)).setCell ⟨bb, 27, none⟩ (.int .i64 kd)).setCell ⟨bb, 25, none⟩ (.int .i64 (m.fn : Nat))).setCell ⟨bb, 26, none⟩ (.int .i64 (m.at_ : Nat))).drewN q) ∧
      Kx base bb w ((((((w.setCell ⟨bb, 32, none⟩ (.bool true)).setCell ⟨bb, 24, none⟩ (.int .i64 1)).setCell ⟨bb, 27, none⟩ (.int .i64 kd)).setCell ⟨bb, 25, none⟩ (.int .i64 (m.fn : Nat))).setCell ⟨bb, 26, none⟩ (.int .i64 (m.at_ : Nat))).drewN q) := by
  refine ⟨updV (updV (updV (updV (updV L 32 (.bool true)) 24 (.int .i64 1)) 27 (.int .i64 kd)) 25 (.int .i64 (m.fn : Nat))) 26 (.int .i64 (m.at_ : Nat)), ?_, ((((((Kx.refl base bb w).set _ _).set _ _).set _ _).set _ _).set _ _).drewN q⟩
  constructor
  case bx => exact (((((hM.bx.set 32 _ (by omega)).set 24 _ (by omega)).set 27 _ (by omega)).set 25 _ (by omega)).set 26 _ (by omega)).drewN q
  case rc => refine owns_drewN (owns_setb (owns_setb (owns_setb (owns_setb (owns_setb ?_ hM.hbb) hM.hbb) hM.hbb) hM.hbb) hM.hbb); exact hM.rc
  case r28 =>
    have h : updV (updV (updV (updV (updV L 32 (.bool true)) 24 (.int .i64 1)) 27 (.int .i64 kd)) 25 (.int .i64 (m.fn : Nat))) 26 (.int .i64 (m.at_ : Nat)) 28 = .slice none 0 0 := by simpa [updV] using hM.l28
    rw [h, List.drop_length]
    exact World.ownsRow_nil _ _ _ _
  case d28 =>
    have h : updV (updV (updV (updV (updV L 32 (.bool true)) 24 (.int .i64 1)) 27 (.int .i64 kd)) 25 (.int .i64 (m.fn : Nat))) 26 (.int .i64 (m.at_ : Nat)) 28 = .slice none 0 0 := by simpa [updV] using hM.l28
    rw [h]; left; rfl
  case re =>
    have h : updV (updV (updV (updV (updV L 32 (.bool true)) 24 (.int .i64 1)) 27 (.int .i64 kd)) 25 (.int .i64 (m.fn : Nat))) 26 (.int .i64 (m.at_ : Nat)) 29 = L 29 := by simp [updV]
    rw [h]; refine owns_drewN (owns_setb (owns_setb (owns_setb (owns_setb (owns_setb ?_ hM.hbb) hM.hbb) hM.hbb) hM.hbb) hM.hbb); exact hM.re
  case l23 => simp [updV]
  case l24 => simp [updV]
  case l25 => simp [updV]
  case l26 => simp [updV]
  case l27 => simp [updV]
  case l30 => simpa [updV] using hM.l30
  case l31 => simpa [updV] using hM.l31
  case l32 => simp [updV]
  case hbb => exact hM.hbb
  case hba =>
    have h : ∀ (w : World), (w.drewN q).heap.size = w.heap.size := fun _ => rfl
    rw [h, size_setb, size_setb, size_setb, size_setb, size_setb]; exact hM.hba
theorem Fl.next {bb base kd k j : Nat} {m : Im.St} {v23 v : Value} {L : Nat → Value} {w w1 : World} (hF : Fl bb base kd k (j + 1) m v23 L w) (hg : w.grownBy w1 (L 28).ownBlock) (hf : Fresh w (L 28) v)
    (ho : w1.ownsRow base 86 2 v (m.cal.drop j).reverse.length (prs (m.cal.drop j).reverse)) : Fl bb base kd k j m v23 (updV L 28 v) (w1.setCell ⟨bb, 28, none⟩ v) ∧ Kx base bb w (w1.setCell ⟨bb, 28, none⟩ v) := by
  have hrow : ∀ j, (L 28).ownBlock = some j → base ≤ j ∧ j < w.heap.size := hF.r28.lt
  have hbb : some bb ≠ (L 28).ownBlock := fun e => by have := (hrow bb e.symm).1; have := hF.hbb; omega
  have low : ∀ {e : TypeId} {size : Nat} {x : Value} {q : Nat} {xs : List Value}, w1.ownsRow base e size x q xs → (w1.setCell ⟨bb, 28, none⟩ v).ownsRow base e size x q xs := fun h => ownsRow_setCell_below h (by exact hF.hbb) _
  have hrc : v23.ownBlock = none ∨ v23.ownBlock ≠ (L 28).ownBlock := by
    rcases hF.d28 with h | h
    · rcases hx : v23.ownBlock with _ | x
      · left; rfl
      · right; rw [h]; simp
    · right; exact fun e => h e.symm
  have hre : (L 29).ownBlock = none ∨ (L 29).ownBlock ≠ (L 28).ownBlock := owns_kind hF.re hF.r28 (by decide)
  refine ⟨?_, ((Kx.refl base bb w).grown hg hF.hba (fun j hj => (hrow j hj).1)).set _ _⟩
  constructor
  case bx => exact (hF.bx.grown hg hbb).set _ _ (by omega)
  case rc => exact low (hF.rc.kept hg hrc)
  case r28 => rw [updV_at]; exact low ho
  case d28 =>
    rw [updV_at]
    rcases hv : v.ownBlock with _ | x
    · left; rfl
    · right
      intro e
      rcases hf x hv with h | h
      · rcases hF.d28 with h' | h'
        · rw [h'] at h; simp at h
        · exact h' (h.trans e)
      · have := (hF.rc.lt x e.symm).2; omega
  case re => rw [updV_ne _ _ _ _ (by omega)]; exact low (hF.re.kept hg hre)
  case hbb => exact hF.hbb
  case hba => have := hF.hba; have := hg.size; simp; omega
  case l23 => rw [updV_ne _ _ _ _ (by omega)]; exact hF.l23
  case l24 => rw [updV_ne _ _ _ _ (by omega)]; exact hF.l24
  case l25 => rw [updV_ne _ _ _ _ (by omega)]; exact hF.l25
  case l26 => rw [updV_ne _ _ _ _ (by omega)]; exact hF.l26
  case l27 => rw [updV_ne _ _ _ _ (by omega)]; exact hF.l27
  case l30 => rw [updV_ne _ _ _ _ (by omega)]; exact hF.l30
  case l31 => rw [updV_ne _ _ _ _ (by omega)]; exact hF.l31
  case l32 => rw [updV_ne _ _ _ _ (by omega)]; exact hF.l32
theorem Fl.alloc {bb base kd k j : Nat} {m : Im.St} {v23 : Value} {L : Nat → Value} {w : World} (hF : Fl bb base kd k j m v23 L w) (o : Obj) : Fl bb base kd k j m v23 L (w.alloc o) :=
  { hF with bx := hF.bx.alloc o, rc := hF.rc.alloc o, r28 := hF.r28.alloc o, re := hF.re.alloc o, hba := by have := hF.hba; simp; omega }
theorem Fl.drewN {bb base kd k j : Nat} {m : Im.St} {v23 : Value} {L : Nat → Value} {w : World} (hF : Fl bb base kd k j m v23 L w) (q : Nat) : Fl bb base kd k j m v23 L (w.drewN q) :=
  { hF with bx := hF.bx.drewN q, rc := hF.rc, r28 := hF.r28, re := hF.re, hba := hF.hba }
theorem Fl.done {bb base kd k : Nat} {m : Im.St} {v23 : Value} {L : Nat → Value} {w : World} (hF : Fl bb base kd k 0 m v23 L w) : Dn bb base 1 kd m.fn m.at_ k (-1) m.cal.reverse m.edg L w :=
  ⟨hF.bx, hF.l24, hF.l25, hF.l26, hF.l27, hF.r28, hF.re, hF.l30, hF.l31, hF.l32⟩

theorem news2 (w : World) (t : TypeId) (x0 x1 : Value) : ∀ j u, [x0, x1][j]? = some u → (w.alloc (.cells #[x0, x1] t)).cell? ((⟨w.heap.size, 0, none⟩ : Addr).add j) = some u := by
  intro j u hj
  match j, hj with
  | 0, hj => simp at hj; subst hj; simp [Addr.add]
  | 1, hj => simp at hj; subst hj; simp [Addr.add]
theorem ones2 (k : IntKind) (a b : Int) : ∀ u ∈ [Value.int k a, Value.int k b], u.oneCell' = true := by
  intro u hu; simp at hu; rcases hu with rfl | rfl <;> rfl

set_option maxHeartbeats 6400000 in
set_option maxRecDepth 100000 in
theorem fault_any (s inp : ByteArray) (n bb bF cF base k kd : Nat) (m : Im.St) (L : Nat → Value) (w : World) (hM : Ms s inp n bb bF cF base m k L w) (hcal : m.cal.length ≤ 100) :
    Calls Tryz.prog 88 #[.pointer (some ⟨bb, 0, none⟩), .int .i64 kd] w fun e w' => FaultPost bb base kd k m w w' e := by
  obtain ⟨i0, hi, hz0, hz1, hz2⟩ := info_parts Tryz.infoSite
  have c32 := hM.bx.cell 32 (by omega)
  have c24 := hM.bx.cell 24 (by omega)
  have c27 := hM.bx.cell 27 (by omega)
  have c25 := hM.bx.cell 25 (by omega)
  have c26 := hM.bx.cell 26 (by omega)
  have c4 := hM.bx.cell 4 (by omega)
  have c5 := hM.bx.cell 5 (by omega)
  have c23 := hM.bx.cell 23 (by omega)
  rw [hM.l32] at c32
  rw [hM.l24] at c24
  rw [hM.l27] at c27
  rw [hM.l25] at c25
  rw [hM.l26] at c26
  rw [hM.l4] at c4
  rw [hM.l5] at c5
  have z32 := hM.bx.frz 32
  have z24 := hM.bx.frz 24
  have z27 := hM.bx.frz 27
  have z25 := hM.bx.frz 25
  have z26 := hM.bx.frz 26
  obtain ⟨ao, cap, hv, hnc, hcm, hcl⟩ := owns_shape hM.rc
  have HFS := fun q => Fl.start (kd := kd) hM q
  have HV : Hid (L 23 = .slice ao m.cal.length cap) := hv
  rw [hv] at c23
  unfold maxLen at hcm
  clear hv
  go_enter Tryz.func88, Tryz.ntmps88
  go_wp2
  go_region
  go_wp2
  obtain ⟨L1, hF1, hK1⟩ := HFS 1
  clear HFS c32 c24 c27 c25 c26 c4 c5 c23 z32 z24 z27 z25 z26 hM hcl
  go_loopw [4] (fun i wr => ∃ (j : Nat) (L' : Nat → Value), i = .int .i64 ((j : Int) - 1) ∧ j ≤ m.cal.length ∧ Fl bb base kd k j m (L 23) L' wr ∧ Kx base bb w wr) (fun i _ => ((intOf i) + 1).toNat)
  case atStart => exact ⟨m.cal.length, L1, rfl, Nat.le_refl _, hF1, hK1⟩
  case round =>
    clear hF1 hK1
    obtain ⟨j, L', rfl, hj, hF, hK⟩ := hrel
    by_cases hj0 : j = 0
    · subst hj0
      have HD := hF.done
      have HP : Hid (FaultPost bb base kd k m w wr (.returned (.tuple #[]))) := ⟨rfl, ⟨L', HD⟩, hK⟩
      clear HD hF hK
      go_wp2
      go_end0
      exact HP.out
    · obtain ⟨j, rfl⟩ : ∃ i, j = i + 1 := ⟨j - 1, by omega⟩
      have e1 : ((j + 1 : Nat) : Int) - 1 = (j : Int) := by omega
      rw [e1]
      obtain ⟨ao2, cap2, hv2, hnc2, hcm2, -⟩ := owns_shape hF.r28
      obtain ⟨g, cap3, hv3, hgb, hnc3, hcm3, hgl, hcells⟩ := owns_some hF.rc (by omega)
      have c23 := hF.bx.cell 23 (by omega)
      rw [hF.l23, hv3] at c23
      have c28 := hF.bx.cell 28 (by omega)
      have z28 := hF.bx.frz 28
      have hbl := hF.bx.lt
      have hbb := hF.hbb
      have hba := hF.hba
      obtain ⟨g0, g1⟩ := prs_get m.cal j (by omega)
      have x0 := hcells _ _ g0
      have x1 := hcells _ _ g1
      have HDR : Hid ((m.cal.drop j).reverse = (m.cal.drop (j + 1)).reverse ++ [m.cal[j]?.getD (0, 0)]) := drop_rev m.cal j (by omega)
      have hr28 := hF.r28
      have hlen28 : (m.cal.drop (j + 1)).reverse.length ≤ 100 := by simp; omega
      have hrow : some bb ≠ (L' 28).ownBlock := fun e => by have := (hF.r28.lt bb e.symm).1; omega
      have HF : Hid (Fl bb base kd k (j + 1) m (L 23) L' wr) := hF
      have HV2 : Hid (L' 28 = .slice ao2 (m.cal.drop (j + 1)).reverse.length cap2) := hv2
      rw [hv2] at c28 hr28 hrow
      have HK : Hid (Kx base bb w wr) := hK
      clear hF hK hcells g0 g1 hv2 hv3
      obtain ⟨pr, HPR⟩ : ∃ pr, Hid (m.cal[j]?.getD (0, 0) = pr) := ⟨_, rfl⟩
      rw [HPR.out] at x0 x1 HDR
      have hgb2 : g ≠ bb := by omega
      generalize (m.cal.drop (j + 1)).reverse = R at *
      unfold maxLen at hcm2 hcm3
      have hjl : j < m.cal.length := by omega
      go_wp2
      go_region_law (refine step_append_fresh rfl (.tmp 45) (.tmp 53) 49 rfl base 86 i0 (.agg #[.int .i64 0, .int .i64 0]) 2 16 Tryz.undSites hi hz0 hz1 hz2 rfl (by decide) (.slice ao2 R.length cap2) R.length (prs R) rfl (by exact hr28.alloc _) ⟨wr.heap.size, 0, none⟩ 1 1 [.int .i64 (pr.1 : Nat), .int .i64 (pr.2 : Nat)] rfl rfl (by exact news2 _ _ _ _) (by exact ones2 _ _ _) (by unfold maxLen; omega) (by omega) (by exact Nat.le_trans hba (by simp)) ?_; intro v' w1 hown' hgrow hfr; have c28' : w1.cell? ⟨bb, 28, none⟩ = some (.slice ao2 R.length cap2) := (hgrow.cell ((World.cell?_alloc_lt _ _ ⟨bb, 28, none⟩ hbl).trans c28) hrow); have z28' : w1.frozen? ⟨bb, 28, none⟩ = false := (World.frozen?_of_block (a := ⟨bb, 28, none⟩) (hgrow.block bb (Nat.lt_of_lt_of_le hbl (by simp)) hrow)).trans ((World.frozen?_alloc_old _ _ ⟨bb, 28, none⟩ (Nat.ne_of_lt hbl)).trans z28); obtain ⟨g', cap', hv', -⟩ := owns_some hown' (by omega); subst hv')
      all_goals
        have hN : Fl bb base kd k j m (L 23) (updV L' 28 (.slice (some ⟨g', 0, none⟩) (R.length + 1) cap')) (w1.setCell ⟨bb, 28, none⟩ (.slice (some ⟨g', 0, none⟩) (R.length + 1) cap')) ∧ Kx base bb wr (w1.setCell ⟨bb, 28, none⟩ (.slice (some ⟨g', 0, none⟩) (R.length + 1) cap')) := by
          have hA : Fl bb base kd k (j + 1) m (L 23) L' ((wr.alloc (.cells #[.int .i64 (pr.1 : Nat), .int .i64 (pr.2 : Nat)] 86)).drewN 1) := (HF.out.alloc _).drewN 1
          have h := hA.next (w1 := w1) (v := .slice (some ⟨g', 0, none⟩) (R.length + 1) cap') (by rw [HV2.out]; exact hgrow) (by rw [HV2.out]; exact hfr) (by rw [HDR.out, prs_append]; simpa [prs] using hown')
          exact ⟨h.1, (((Kx.refl base bb wr).alloc hba _).drewN 1).trans h.2⟩
        have hN1 := hN.1
        have hN2 := HK.out.trans hN.2
        clear hN hown' hgrow hfr c28' z28' c28 z28 hr28 x0 x1 c23
        go_wp2
        go_roundw
        case rel => exact ⟨j, _, by go_num, by omega, hN1, hN2⟩
        case measure => simp [intOf]
end Go.Proofs.YtbmaiioecnmopaaGreatDoor

/-
  THE DOCUMENT's SIDE (package triageref): sum, back, goes. By the verifier of the loop 'triage'.
-/
namespace Go.Proofs.YtbmaiioecnmopaaGreatDoor
open Go.RowKit

theorem Ms.k0 {s inp : ByteArray} {n bb bF cF base k : Nat} {m : Im.St} {L : Nat → Value} {w : World} (h : Ms s inp n bb bF cF base m k L w) : w.cell? ⟨bb, 0, none⟩ = some (.string s) := (h.bx.cell 0 (by omega)).trans (by rw [h.l0])
theorem Ms.k1 {s inp : ByteArray} {n bb bF cF base k : Nat} {m : Im.St} {L : Nat → Value} {w : World} (h : Ms s inp n bb bF cF base m k L w) : w.cell? ⟨bb, 1, none⟩ = some (.slice (some ⟨bF, 0, none⟩) n cF) := (h.bx.cell 1 (by omega)).trans (by rw [h.l1])
theorem Ms.k2 {s inp : ByteArray} {n bb bF cF base k : Nat} {m : Im.St} {L : Nat → Value} {w : World} (h : Ms s inp n bb bF cF base m k L w) : w.cell? ⟨bb, 2, none⟩ = some (.string inp) := (h.bx.cell 2 (by omega)).trans (by rw [h.l2])
theorem Ms.k3 {s inp : ByteArray} {n bb bF cF base k : Nat} {m : Im.St} {L : Nat → Value} {w : World} (h : Ms s inp n bb bF cF base m k L w) : w.cell? ⟨bb, 3, none⟩ = some (.int .i64 (m.pos : Nat)) := (h.bx.cell 3 (by omega)).trans (by rw [h.l3])
theorem Ms.k4 {s inp : ByteArray} {n bb bF cF base k : Nat} {m : Im.St} {L : Nat → Value} {w : World} (h : Ms s inp n bb bF cF base m k L w) : w.cell? ⟨bb, 4, none⟩ = some (.int .i64 (m.fn : Nat)) := (h.bx.cell 4 (by omega)).trans (by rw [h.l4])
theorem Ms.k5 {s inp : ByteArray} {n bb bF cF base k : Nat} {m : Im.St} {L : Nat → Value} {w : World} (h : Ms s inp n bb bF cF base m k L w) : w.cell? ⟨bb, 5, none⟩ = some (.int .i64 (m.at_ : Nat)) := (h.bx.cell 5 (by omega)).trans (by rw [h.l5])
theorem Ms.k30 {s inp : ByteArray} {n bb bF cF base k : Nat} {m : Im.St} {L : Nat → Value} {w : World} (h : Ms s inp n bb bF cF base m k L w) : w.cell? ⟨bb, 30, none⟩ = some (.int .i64 (k : Nat)) := (h.bx.cell 30 (by omega)).trans (by rw [h.l30])
theorem Ms.k31 {s inp : ByteArray} {n bb bF cF base k : Nat} {m : Im.St} {L : Nat → Value} {w : World} (h : Ms s inp n bb bF cF base m k L w) : w.cell? ⟨bb, 31, none⟩ = some (.int .i64 (-1)) := (h.bx.cell 31 (by omega)).trans (by rw [h.l31])
theorem Ms.k32 {s inp : ByteArray} {n bb bF cF base k : Nat} {m : Im.St} {L : Nat → Value} {w : World} (h : Ms s inp n bb bF cF base m k L w) : w.cell? ⟨bb, 32, none⟩ = some (.bool false) := (h.bx.cell 32 (by omega)).trans (by rw [h.l32])
theorem Ms.kc {s inp : ByteArray} {n bb bF cF base k : Nat} {m : Im.St} {L : Nat → Value} {w : World} (h : Ms s inp n bb bF cF base m k L w) (i : Nat) (hi : i < 16) : w.cell? ⟨bb, 7 + i, none⟩ = some (.int .i64 (m.cel i : Nat)) := (h.bx.cell (7 + i) (by omega)).trans (by rw [h.lc i hi])

theorem ari4 (x y : Nat) : Im.ari 4 x y = (x + y) % 256 := by unfold Im.ari; rw [if_pos rfl]
theorem ari5 (x y : Nat) : Im.ari 5 x y = (x + 256 - y) % 256 := by unfold Im.ari; rw [if_neg (by decide), if_pos rfl]
theorem ari6 (x y : Nat) : Im.ari 6 x y = x * y % 256 := by unfold Im.ari; rw [if_neg (by decide), if_neg (by decide), if_pos rfl]
theorem ari8 (x y : Nat) : Im.ari 8 x y = if x = y then 1 else 0 := by unfold Im.ari; rw [if_neg (by decide), if_neg (by decide), if_neg (by decide), if_pos rfl]
theorem ari9 (x y : Nat) : Im.ari 9 x y = if x < y then 1 else 0 := by unfold Im.ari; rw [if_neg (by decide), if_neg (by decide), if_neg (by decide), if_neg (by decide), if_pos rfl]
theorem ari7 (x y : Nat) : Im.ari 7 x y = x / y := by unfold Im.ari; rw [if_neg (by decide), if_neg (by decide), if_neg (by decide), if_neg (by decide), if_neg (by decide)]

/-- how 'sum' ends where there is an answer. -/
def SumPost (op x y : Nat) (w w' : World) (e : Ending) : Prop := (∃ z : Int, e = .returned (.tuple #[.int .i64 z, .bool true]) ∧ z % 256 = (Im.ari op x y : Nat)) ∧ w = w'

set_option maxHeartbeats 800000 in
/-- 'sum' of two bytes: what is pushed. -/
theorem sum_any (op x y : Nat) (w : World) (hx : x < 256) (hy : y < 256) (hop : op = 4 ∨ op = 5 ∨ op = 6 ∨ op = 8 ∨ op = 9 ∨ (op = 7 ∧ y ≠ 0)) :
    Calls Tryz.prog 97 #[.int .u8 op, .int .i64 x, .int .i64 y] w fun e w' => SumPost op x y w w' e := by
  rcases hop with rfl | rfl | rfl | rfl | rfl | ⟨rfl, hy0⟩
  · have HP : Hid (SumPost 4 x y w w (.returned (.tuple #[.int .i64 ((x : Int) + y), .bool true]))) := ⟨⟨_, rfl, by rw [ari4]; omega⟩, rfl⟩
    go_enter Tryz.func97, Tryz.ntmps97
    go_wp2
    go_ret2
    exact HP.out
  · have HP : Hid (SumPost 5 x y w w (.returned (.tuple #[.int .i64 ((x : Int) - y), .bool true]))) := ⟨⟨_, rfl, by rw [ari5]; omega⟩, rfl⟩
    go_enter Tryz.func97, Tryz.ntmps97
    go_wp2
    go_ret2
    exact HP.out
  · have hm : x * y ≤ 255 * 255 := Nat.mul_le_mul (by omega) (by omega)
    have HP : Hid (SumPost 6 x y w w (.returned (.tuple #[.int .i64 ((x : Int) * y), .bool true]))) := ⟨⟨_, rfl, by rw [ari6]; simp⟩, rfl⟩
    have hm2 : (x : Int) * (y : Int) ≤ 65025 := by
      have : ((x * y : Nat) : Int) ≤ 65025 := by omega
      simpa using this
    have hm3 : 0 ≤ (x : Int) * (y : Int) := Int.mul_nonneg (by omega) (by omega)
    go_enter Tryz.func97, Tryz.ntmps97
    go_wp2
    go_ret2
    exact HP.out
  · by_cases h : x = y
    · have hb : ((x : Int) == (y : Int)) = true := by simp [h]
      have HP : Hid (SumPost 8 x y w w (.returned (.tuple #[.int .i64 1, .bool true]))) := ⟨⟨_, rfl, by rw [ari8, if_pos h]; rfl⟩, rfl⟩
      clear h
      go_enter Tryz.func97, Tryz.ntmps97
      go_wp2_with (go_at_call 106; refine (truth_any _ _).mono ?_; rintro e w' ⟨rfl, rfl⟩)
      go_ret2
      exact HP.out
    · have hb : ((x : Int) == (y : Int)) = false := by rw [beq_eq_false_iff_ne]; omega
      have HP : Hid (SumPost 8 x y w w (.returned (.tuple #[.int .i64 0, .bool true]))) := ⟨⟨_, rfl, by rw [ari8, if_neg h]; rfl⟩, rfl⟩
      clear h
      go_enter Tryz.func97, Tryz.ntmps97
      go_wp2_with (go_at_call 106; refine (truth_any _ _).mono ?_; rintro e w' ⟨rfl, rfl⟩)
      go_ret2
      exact HP.out
  · by_cases h : x < y
    · have HP : Hid (SumPost 9 x y w w (.returned (.tuple #[.int .i64 1, .bool true]))) := ⟨⟨_, rfl, by rw [ari9, if_pos h]; rfl⟩, rfl⟩
      have hb : decide ((x : Int) < (y : Int)) = true := by simp; omega
      go_enter Tryz.func97, Tryz.ntmps97
      go_wp2_with (go_at_call 106; refine (truth_any _ _).mono ?_; rintro e w' ⟨rfl, rfl⟩)
      go_ret2
      exact HP.out
    · have HP : Hid (SumPost 9 x y w w (.returned (.tuple #[.int .i64 0, .bool true]))) := ⟨⟨_, rfl, by rw [ari9, if_neg h]; rfl⟩, rfl⟩
      have hb : decide ((x : Int) < (y : Int)) = false := by simp; omega
      go_enter Tryz.func97, Tryz.ntmps97
      go_wp2_with (go_at_call 106; refine (truth_any _ _).mono ?_; rintro e w' ⟨rfl, rfl⟩)
      go_ret2
      exact HP.out
  · have hb : ((y : Int) == 0) = false := by rw [beq_eq_false_iff_ne]; omega
    have hd : x / y ≤ x := Nat.div_le_self x y
    have hq : 0 ≤ (x : Int) / (y : Int) := Int.ediv_nonneg (by omega) (by omega)
    have hq2 : (x : Int) / (y : Int) ≤ 255 := by
      have : ((x / y : Nat) : Int) = (x : Int) / y := by simp
      omega
    have HP : Hid (∀ z : Int, z = (x : Int) / (y : Int) → SumPost 7 x y w w (.returned (.tuple #[.int .i64 z, .bool true]))) := by
      intro z hz
      refine ⟨⟨z, rfl, ?_⟩, rfl⟩
      rw [ari7]
      have : ((x / y : Nat) : Int) = (x : Int) / y := by simp
      omega
    go_enter Tryz.func97, Tryz.ntmps97
    go_wp2
    go_ret2
    exact HP.out _ rfl
theorem sum_zero (x : Nat) (w : World) : Calls Tryz.prog 97 #[.int .u8 7, .int .i64 x, .int .i64 0] w fun e w' => e = .returned (.tuple #[.int .i64 0, .bool false]) ∧ w = w' := by
  go_enter Tryz.func97, Tryz.ntmps97
  go_wp2
  go_ret2
  exact ⟨rfl, rfl⟩
end Go.Proofs.YtbmaiioecnmopaaGreatDoor

/-
  THE DOCUMENT's SIDE (package triageref): back, goes. By the verifier of the loop 'triage'.
-/
namespace Go.Proofs.YtbmaiioecnmopaaGreatDoor
open Go.RowKit

def topI (l : List Nat) : Int := if l.length = 0 then -1 else (Im.top l : Nat)
/-- how a step ends that ends the run. -/
def EndPost (bb base k : Nat) (m : Im.St) (w w' : World) (e : Ending) : Prop :=
  e = .returned (.tuple #[]) ∧ (∃ L', Dn bb base 0 0 0 0 k (topI m.stk) [] m.edg L' w') ∧ Kx base bb w w'
/-- how a step ends that goes on, in state m'. -/
def GoPost (s inp : ByteArray) (n bb bF cF base : Nat) (m' : Im.St) (k : Nat) (w w' : World) (e : Ending) : Prop :=
  e = .returned (.tuple #[]) ∧ (∃ L', Ms s inp n bb bF cF base m' k L' w') ∧ Kx base bb w w'

set_option maxHeartbeats 1600000 in
set_option maxRecDepth 100000 in
theorem back_end (s inp : ByteArray) (n bb bF cF base k : Nat) (m : Im.St) (L : Nat → Value) (w : World) (hM : Ms s inp n bb bF cF base m k L w) (hl : m.stk.length ≤ 100) (hc : m.cal.length = 0) :
    Calls Tryz.prog 90 #[.pointer (some ⟨bb, 0, none⟩)] w fun e w' => EndPost bb base k m w w' e := by
  have k32 := hM.k32
  have k31 := hM.k31
  have z32 := hM.bx.frz 32
  have z31 := hM.bx.frz 31
  obtain ⟨ao, cap, hv, hnc, hcm, -⟩ := owns_shape hM.rc
  have c23 := hM.bx.cell 23 (by omega)
  rw [hv, hc] at c23
  by_cases h0 : m.stk.length = 0
  · obtain ⟨ao6, cap6, hv6, hnc6, hcm6, -⟩ := owns_shape hM.rs
    have c6 := hM.bx.cell 6 (by omega)
    rw [hv6, h0] at c6
    have HP : Hid (EndPost bb base k m w (w.setCell ⟨bb, 32, none⟩ (.bool true)) (.returned (.tuple #[]))) := by
      refine ⟨rfl, ⟨updV L 32 (.bool true), ?_⟩, (Kx.refl base bb w).set _ _⟩
      have e : topI m.stk = -1 := by unfold topI; rw [if_pos h0]
      rw [e]
      constructor
      case bx => exact hM.bx.set _ _ (by omega)
      case r28 => rw [updV_ne _ _ _ _ (by omega), hM.l28]; exact World.ownsRow_nil _ _ _ _
      case re => rw [updV_ne _ _ _ _ (by omega)]; exact owns_setb hM.re hM.hbb
      case l32 => rw [updV_at]
      case l24 => rw [updV_ne _ _ _ _ (by omega)]; exact hM.l24
      case l25 => rw [updV_ne _ _ _ _ (by omega)]; exact hM.l25
      case l26 => rw [updV_ne _ _ _ _ (by omega)]; exact hM.l26
      case l27 => rw [updV_ne _ _ _ _ (by omega)]; exact hM.l27
      case l30 => rw [updV_ne _ _ _ _ (by omega)]; exact hM.l30
      case l31 => rw [updV_ne _ _ _ _ (by omega)]; exact hM.l31
    clear hM hc h0 hv hv6 hl
    go_enter Tryz.func90, Tryz.ntmps90
    go_wp2
    exact bodyPost_ret (v := .tuple #[]) (by simp [results, Tryz.results90, go_sem]) rfl HP.out
  · obtain ⟨g, cap6, hv6, hgb, hnc6, hcm6, hgl, hcells⟩ := owns_some hM.rs (by omega)
    have c6 := hM.bx.cell 6 (by omega)
    rw [hv6] at c6
    have ct := hcells (m.stk.length - 1) _ (ints_get m.stk (m.stk.length - 1) (by omega))
    have hgne : g ≠ bb := by have := hM.hbb; omega
    have HP : Hid (∀ q, EndPost bb base k m w (((w.setCell ⟨bb, 32, none⟩ (.bool true)).setCell ⟨bb, 31, none⟩ (.int .i64 (m.stk[m.stk.length - 1]?.getD 0 : Nat))).drewN q) (.returned (.tuple #[]))) := by
      intro q
      refine ⟨rfl, ⟨updV (updV L 32 (.bool true)) 31 (.int .i64 (m.stk[m.stk.length - 1]?.getD 0 : Nat)), ?_⟩, (((Kx.refl base bb w).set _ _).set _ _).drewN q⟩
      have e : topI m.stk = (m.stk[m.stk.length - 1]?.getD 0 : Nat) := by unfold topI; rw [if_neg h0]; rfl
      rw [e]
      constructor
      case bx => exact ((hM.bx.set _ _ (by omega)).set _ _ (by omega)).drewN q
      case r28 => rw [updV_ne _ _ _ _ (by omega), updV_ne _ _ _ _ (by omega), hM.l28]; exact World.ownsRow_nil _ _ _ _
      case re => rw [updV_ne _ _ _ _ (by omega), updV_ne _ _ _ _ (by omega)]; exact owns_drewN (owns_setb (owns_setb hM.re hM.hbb) hM.hbb)
      case l32 => rw [updV_ne _ _ _ _ (by omega), updV_at]
      case l31 => rw [updV_at]
      case l24 => rw [updV_ne _ _ _ _ (by omega), updV_ne _ _ _ _ (by omega)]; exact hM.l24
      case l25 => rw [updV_ne _ _ _ _ (by omega), updV_ne _ _ _ _ (by omega)]; exact hM.l25
      case l26 => rw [updV_ne _ _ _ _ (by omega), updV_ne _ _ _ _ (by omega)]; exact hM.l26
      case l27 => rw [updV_ne _ _ _ _ (by omega), updV_ne _ _ _ _ (by omega)]; exact hM.l27
      case l30 => rw [updV_ne _ _ _ _ (by omega), updV_ne _ _ _ _ (by omega)]; exact hM.l30
    clear hM hc hv hv6 hcells
    generalize m.stk[m.stk.length - 1]?.getD 0 = x at *
    obtain ⟨q, HQ⟩ : ∃ q, Hid (m.stk.length = q + 1) := ⟨m.stk.length - 1, by show m.stk.length = _; omega⟩
    rw [HQ.out] at c6 ct hnc6 hl
    rw [Nat.add_sub_cancel] at ct
    unfold maxLen at hcm6
    clear h0
    go_enter Tryz.func90, Tryz.ntmps90
    go_wp2
    go_region
    go_wp2
    exact bodyPost_ret (v := .tuple #[]) (by simp [results, Tryz.results90, go_sem]) rfl (HP.out 1)

theorem prs_take (l : List (Nat × Nat)) (k : Nat) : prs (l.take k) = (prs l).take (k * 2) := by
  induction l generalizing k with
  | nil => simp [prs]
  | cons p r ih =>
    cases k with
    | zero => simp [prs]
    | succ k => rw [show (k + 1) * 2 = k * 2 + 1 + 1 by omega]; simp [prs, ih]

set_option maxHeartbeats 1600000 in
set_option maxRecDepth 100000 in
theorem back_ret (s inp : ByteArray) (n bb bF cF base k : Nat) (m : Im.St) (L : Nat → Value) (w : World) (hM : Ms s inp n bb bF cF base m k L w) (hl : m.cal.length ≤ 100) (hc : 0 < m.cal.length) (hp : (m.cal[m.cal.length - 1]?.getD (0, 0)).2 ≤ 1000) :
    Calls Tryz.prog 90 #[.pointer (some ⟨bb, 0, none⟩)] w fun e w' => GoPost s inp n bb bF cF base { m with fn := (m.cal[m.cal.length - 1]?.getD (0, 0)).1, at_ := (m.cal[m.cal.length - 1]?.getD (0, 0)).2 + 2, cal := m.cal.take (m.cal.length - 1) } k w w' e := by
  have k4 := hM.k4
  have k5 := hM.k5
  have z4 := hM.bx.frz 4
  have z5 := hM.bx.frz 5
  have z23 := hM.bx.frz 23
  obtain ⟨g, cap, hv, hgb, hnc, hcm, hgl, hcells⟩ := owns_some hM.rc hc
  have c23 := hM.bx.cell 23 (by omega)
  rw [hv] at c23
  obtain ⟨g0, g1⟩ := prs_get m.cal (m.cal.length - 1) (by omega)
  have x0 := hcells _ _ g0
  have x1 := hcells _ _ g1
  have hgne : g ≠ bb := by have := hM.hbb; omega
  obtain ⟨pr, HPR⟩ : ∃ pr, Hid (m.cal[m.cal.length - 1]?.getD (0, 0) = pr) := ⟨_, rfl⟩
  rw [HPR.out] at x0 x1 hp ⊢
  have HP : Hid (GoPost s inp n bb bF cF base { m with fn := pr.1, at_ := pr.2 + 2, cal := m.cal.take (m.cal.length - 1) } k w (((w.setCell ⟨bb, 4, none⟩ (.int .i64 (pr.1 : Nat))).setCell ⟨bb, 5, none⟩ (.int .i64 (pr.2 + 2 : Nat))).setCell ⟨bb, 23, none⟩ (.slice (some ⟨g, 0, none⟩) (m.cal.length - 1) cap)) (.returned (.tuple #[]))) := by
    have h2 := (hM.setFn pr.1).setAt (pr.2 + 2)
    have hrc := h2.rc
    have hv2 : updV (updV L 4 (.int .i64 (pr.1 : Nat))) 5 (.int .i64 (pr.2 + 2 : Nat)) 23 = .slice (some ⟨g, 0, none⟩) m.cal.length cap := by rw [updV_ne _ _ _ _ (by omega), updV_ne _ _ _ _ (by omega), hv]
    rw [hv2] at hrc
    refine ⟨rfl, ⟨_, h2.setCalIn (m.cal.take (m.cal.length - 1)) _ ?_⟩, (((Kx.refl base bb w).set _ _).set _ _).set _ _⟩
    rw [prs_take, List.length_take, Nat.min_eq_left (by omega)]
    exact owns_take hrc (by omega)
  clear hM hv hcells g0 g1 HPR
  obtain ⟨q, HQ⟩ : ∃ q, Hid (m.cal.length = q + 1) := ⟨m.cal.length - 1, by show m.cal.length = _; omega⟩
  rw [HQ.out] at c23 x0 x1 hnc hl HP ⊢
  rw [Nat.add_sub_cancel] at x0 x1 HP ⊢
  unfold maxLen at hcm
  clear hc
  go_enter Tryz.func90, Tryz.ntmps90
  go_wp2
  go_end0
  exact HP.out
end Go.Proofs.YtbmaiioecnmopaaGreatDoor

/-
  THE PLAIN MACHINE: what holds of its state all along, on a good image. By the verifier of the loop 'triage'.
-/
namespace Go.Proofs.YtbmaiioecnmopaaGreatDoor
namespace Im

theorem run_next (s : ByteArray) (to : Nat) : ∀ n p, to - p ≤ n → (run s to p).2 = none → ∀ c, c ∈ (run s to p).1 → c + sz (bt s c) = to ∨ c + sz (bt s c) ∈ (run s to p).1 := by
  intro n
  induction n with
  | zero => intro p h hn c hc; rw [run_end s to p (by omega)] at hc; simp at hc
  | succ n ih =>
    intro p h hn c hc
    by_cases hp : p < to
    · by_cases hb : sz (bt s p) = 0 ∨ to < p + sz (bt s p)
      · rw [run_bad s to p hp hb] at hc; simp at hc
      · rw [run_step s to p hp hb] at hc hn ⊢
        have hn2 : (run s to (p + sz (bt s p))).2 = none := hn
        rcases List.mem_cons.1 hc with rfl | hc
        · by_cases he : c + sz (bt s c) = to
          · left; exact he
          · right
            have hlt : c + sz (bt s c) < to := by omega
            have hb2 : ¬ (sz (bt s (c + sz (bt s c))) = 0 ∨ to < c + sz (bt s c) + sz (bt s (c + sz (bt s c)))) := by
              intro hb2
              rw [run_bad s to _ hlt hb2] at hn2
              simp at hn2
            rw [run_step s to _ hlt hb2]
            simp
        · rcases ih _ (by omega) hn2 c hc with h | h
          · left; exact h
          · right; exact List.mem_cons_of_mem _ h
    · rw [run_end s to p hp] at hc; simp at hc
theorem run_first (s : ByteArray) (to p : Nat) (h : p < to) (hn : (run s to p).2 = none) : p ∈ (run s to p).1 := by
  by_cases hb : sz (bt s p) = 0 ∨ to < p + sz (bt s p)
  · rw [run_bad s to p h hb] at hn; simp at hn
  · rw [run_step s to p h hb]; simp
theorem lastI_cons (c : Nat) (l : List Nat) (h : 0 < l.length) : lastI (c :: l) = lastI l := by
  unfold lastI
  obtain ⟨m, hm⟩ : ∃ m, l.length = m + 1 := ⟨l.length - 1, by omega⟩
  simp [hm]
theorem run_last (s : ByteArray) (to : Nat) : ∀ n p, to - p ≤ n → (run s to p).2 = none → ∀ c, c ∈ (run s to p).1 → c + sz (bt s c) = to → lastI (run s to p).1 = c := by
  intro n
  induction n with
  | zero => intro p h hn c hc; rw [run_end s to p (by omega)] at hc; simp at hc
  | succ n ih =>
    intro p h hn c hc he
    by_cases hp : p < to
    · by_cases hb : sz (bt s p) = 0 ∨ to < p + sz (bt s p)
      · rw [run_bad s to p hp hb] at hc; simp at hc
      · rw [run_step s to p hp hb] at hc hn ⊢
        have hn2 : (run s to (p + sz (bt s p))).2 = none := hn
        rcases List.mem_cons.1 hc with rfl | hc
        · show lastI (c :: (run s to (c + sz (bt s c))).1) = c
          rw [run_end s to (c + sz (bt s c)) (by omega)]
          rfl
        · show lastI (p :: (run s to (p + sz (bt s p))).1) = c
          rw [lastI_cons _ _ (by
            rcases hx : (run s to (p + sz (bt s p))).1 with _ | ⟨a, r⟩
            · rw [hx] at hc; simp at hc
            · simp)]
          exact ih _ (by omega) hn2 c hc he
    · rw [run_end s to p hp] at hc; simp at hc

/-- what Check's OK gives. -/
structure Okay (s : ByteArray) (n : Nat) : Prop where
  hs : s.size ≤ 200
  hn : bt s 0 = n
  n1 : 1 ≤ n
  n6 : n ≤ 6
  st : ∀ f, f < n → st s f < st s (f + 1) ∧ st s (f + 1) ≤ s.size
  ops : ∀ f, f < n → (fn s f).2 = none
  jmp : ∀ f, f < n → gJump s n f = none
  fall : ∀ f, f < n → gFall s f = none
theorem okay_of (s : ByteArray) (h : chk s = (0, 0)) : Okay s (bt s 0) := by
  unfold chk at h
  by_cases h0 : 200 < s.size
  · rw [if_pos h0] at h; simp at h
  · rw [if_neg h0] at h
    cases hd0 : hd s with
    | some p => rw [hd0] at h; simp at h
    | none =>
      rw [hd0] at h
      simp only at h
      cases h1 : firstF (gOp s) (bt s 0) 0 with
      | some p => rw [h1] at h; simp at h
      | none =>
        rw [h1] at h
        simp only at h
        cases h2 : firstF (gJump s (bt s 0)) (bt s 0) 0 with
        | some p => rw [h2] at h; simp at h
        | none =>
          rw [h2] at h
          simp only at h
          cases h3 : firstF (gFall s) (bt s 0) 0 with
          | some p => rw [h3] at h; simp at h
          | none =>
            obtain ⟨a, b, _, _, _⟩ := hd_none s hd0
            exact ⟨by omega, rfl, a, b, st_in s hd0, fun f hf => firstF_none _ _ 0 h1 f (by omega) (by omega), fun f hf => firstF_none _ _ 0 h2 f (by omega) (by omega), fun f hf => firstF_none _ _ 0 h3 f (by omega) (by omega)⟩

theorem Okay.bad {s : ByteArray} {n : Nat} (h : Okay s n) (f c : Nat) (hf : f < n) (hc : c ∈ (fn s f).1) : badJ s (Im.st s f) n (fn s f).1 c = false := by
  have hj := h.jmp f hf
  unfold gJump Im.jmp at hj
  have := List.find?_eq_none.1 hj c hc
  simpa using this
theorem Okay.call {s : ByteArray} {n : Nat} (h : Okay s n) (f c : Nat) (hf : f < n) (hc : c ∈ (fn s f).1) (ho : bt s c = 12) : bt s (c + 1) < n := by
  have := h.bad f c hf hc
  simp [badJ, ho] at this
  exact this
theorem Okay.jump {s : ByteArray} {n : Nat} (h : Okay s n) (f c : Nat) (hf : f < n) (hc : c ∈ (fn s f).1) (ho : bt s c = 10 ∨ bt s c = 11) : Im.st s f + bt s (c + 1) ∈ (fn s f).1 := by
  have := h.bad f c hf hc
  rcases ho with ho | ho <;> simp [badJ, ho] at this <;> exact this
theorem Okay.next {s : ByteArray} {n : Nat} (h : Okay s n) (f c : Nat) (hf : f < n) (hc : c ∈ (fn s f).1) (ho : ¬ (bt s c = 0 ∨ bt s c = 10 ∨ bt s c = 17)) : c + sz (bt s c) ∈ (fn s f).1 := by
  rcases run_next s (Im.st s (f + 1)) _ (Im.st s f) (Nat.le_refl _) (h.ops f hf) c hc with he | he
  · exfalso
    have hl := run_last s (Im.st s (f + 1)) _ (Im.st s f) (Nat.le_refl _) (h.ops f hf) c hc he
    have hg := h.fall f hf
    have hl2 : lastI (fn s f).1 = c := hl
    unfold gFall at hg
    rw [hl2, if_neg ho] at hg
    simp at hg
  · exact he
theorem Okay.first {s : ByteArray} {n : Nat} (h : Okay s n) (f : Nat) (hf : f < n) : Im.st s f ∈ (fn s f).1 := run_first s _ _ (h.st f hf).1 (h.ops f hf)

/-- what holds of the state all along. -/
structure Good (s inp : ByteArray) (n : Nat) (m : St) : Prop where
  hf : m.fn < n
  ha : m.at_ ∈ (fn s m.fn).1
  hl : m.stk.length ≤ 16
  hv : ∀ x, x ∈ m.stk → x < 256
  hc : ∀ i, m.cel i < 256
  hcl : m.cal.length ≤ 8
  hcv : ∀ c, c ∈ m.cal → c.1 < n ∧ c.2 ∈ (fn s c.1).1 ∧ bt s c.2 = 12
  hp : m.pos ≤ inp.size
theorem good_start (s inp : ByteArray) (n : Nat) (h : Okay s n) : Good s inp n (st0 s) :=
  ⟨h.n1, h.first 0 h.n1, by simp [st0], by simp [st0], by simp [st0], by simp [st0], by simp [st0], by simp [st0]⟩
theorem top_mem (l : List Nat) (h : 0 < l.length) : top l ∈ l := by
  unfold top; rw [List.getElem?_eq_getElem (by omega)]; simp
theorem snd_mem (l : List Nat) (h : 2 ≤ l.length) : snd l ∈ l := by
  unfold snd; rw [List.getElem?_eq_getElem (by omega)]; simp
theorem ari_lt (op x y : Nat) (hx : x < 256) : ari op x y < 256 := by
  unfold ari
  split
  · omega
  · split
    · omega
    · split
      · omega
      · split
        · split <;> omega
        · split
          · split <;> omega
          · have := Nat.div_le_self x y; omega
end Im
end Go.Proofs.YtbmaiioecnmopaaGreatDoor

/-
  THE PLAIN MACHINE: a step keeps what holds of the state. By the verifier of the loop 'triage'.
-/
namespace Go.Proofs.YtbmaiioecnmopaaGreatDoor
namespace Im

theorem psh_le (op : Nat) : psh op ≤ 2 := by unfold psh; split <;> (try split) <;> omega
theorem mem_take {l : List Nat} {k x : Nat} (h : x ∈ l.take k) : x ∈ l := List.mem_of_mem_take h

abbrev PG (s inp : ByteArray) (n : Nat) (r : St × Nat) : Prop := r.2 = 0 → Good s inp n r.1
theorem itep {α : Type} {P : α → Prop} {c : Prop} [Decidable c] {a b : α} (h1 : c → P a) (h2 : ¬ c → P b) : P (if c then a else b) := by
  by_cases h : c
  · rw [if_pos h]; exact h1 h
  · rw [if_neg h]; exact h2 h
theorem good_step (s inp : ByteArray) (n : Nat) (m : St) (ho : Okay s n) (hg : Good s inp n m) : (stepP s inp m).2 = 0 → Good s inp n (stepP s inp m).1 := by
  have hnx := fun h => ho.next m.fn m.at_ hg.hf hg.ha h
  have hl := hg.hl
  show PG s inp n (stepP s inp m)
  unfold stepP
  refine itep (P := PG s inp n) (fun hU => ?_) (fun hU => ?_)
  · intro h; simp at h
  refine itep (P := PG s inp n) (fun hO => ?_) (fun hO => ?_)
  · intro h; simp at h
  refine itep (P := PG s inp n) (fun hop => ?_) (fun h0 => ?_)
  · refine itep (P := PG s inp n) (fun hop => ?_) (fun hc => ?_)
    · intro h; simp at h
    · intro _
      have hm : (m.cal[m.cal.length - 1]?.getD (0, 0)) ∈ m.cal := by rw [List.getElem?_eq_getElem (by omega)]; simp
      obtain ⟨a1, a2, a3⟩ := hg.hcv _ hm
      have hn := ho.next _ _ a1 a2 (by rw [a3]; decide)
      rw [a3] at hn
      exact ⟨a1, hn, hg.hl, hg.hv, hg.hc, by have := List.length_take_le (m.cal.length - 1) m.cal; have := hg.hcl; show (m.cal.take _).length ≤ 8; omega, fun c hc => hg.hcv c (List.mem_of_mem_take hc), hg.hp⟩
  refine itep (P := PG s inp n) (fun hop => ?_) (fun h10 => ?_)
  · intro _
    exact ⟨hg.hf, ho.jump _ _ hg.hf hg.ha (Or.inl hop), hg.hl, hg.hv, hg.hc, hg.hcl, hg.hcv, hg.hp⟩
  refine itep (P := PG s inp n) (fun hop => ?_) (fun h11 => ?_)
  · refine itep (P := PG s inp n) (fun htop => ?_) (fun hneg => ?_)
    · intro _
      exact ⟨hg.hf, ho.jump _ _ hg.hf hg.ha (Or.inr hop), by have := List.length_take_le (m.stk.length - 1) m.stk; show (m.stk.take _).length ≤ 16; omega, fun x hx => hg.hv x (mem_take hx), hg.hc, hg.hcl, hg.hcv, hg.hp⟩
    · intro _
      have hn := hnx (by rw [hop]; decide)
      rw [hop] at hn
      exact ⟨hg.hf, hn, by have := List.length_take_le (m.stk.length - 1) m.stk; show (m.stk.take _).length ≤ 16; omega, fun x hx => hg.hv x (mem_take hx), hg.hc, hg.hcl, hg.hcv, hg.hp⟩
  refine itep (P := PG s inp n) (fun hop => ?_) (fun h12 => ?_)
  · refine itep (P := PG s inp n) (fun hop => ?_) (fun hc => ?_)
    · intro h; simp at h
    · intro _
      have hb := ho.call _ _ hg.hf hg.ha hop
      refine ⟨hb, ho.first _ hb, hg.hl, hg.hv, hg.hc, by show (m.cal ++ [(m.fn, m.at_)]).length ≤ 8; simp; omega, ?_, hg.hp⟩
      intro c hc
      rcases List.mem_append.1 hc with h | h
      · exact hg.hcv c h
      · simp at h
        subst h
        exact ⟨hg.hf, hg.ha, hop⟩
  refine itep (P := PG s inp n) (fun h17 => ?_) (fun h17 => ?_)
  · intro h; simp at h
  have hn := hnx (by omega)
  refine itep (P := PG s inp n) (fun hop => ?_) (fun h1 => ?_)
  · intro _
    rw [hop] at hn hO
    refine ⟨hg.hf, hn, ?_, ?_, hg.hc, hg.hcl, hg.hcv, hg.hp⟩
    · have : tk 1 = 0 := rfl
      have : psh 1 = 1 := rfl
      show (m.stk ++ [_]).length ≤ 16
      simp; omega
    · intro x hx
      rcases List.mem_append.1 hx with h | h
      · exact hg.hv x h
      · simp at h; subst h; exact bt_lt _ _
  refine itep (P := PG s inp n) (fun hop => ?_) (fun h2 => ?_)
  · intro _
    rw [hop] at hn
    exact ⟨hg.hf, hn, by have := List.length_take_le (m.stk.length - 1) m.stk; show (m.stk.take _).length ≤ 16; omega, fun x hx => hg.hv x (mem_take hx), hg.hc, hg.hcl, hg.hcv, hg.hp⟩
  refine itep (P := PG s inp n) (fun hop => ?_) (fun h3 => ?_)
  · intro _
    rw [hop] at hn hO hU
    have t3 : tk 3 = 1 := rfl
    have p3 : psh 3 = 2 := rfl
    refine ⟨hg.hf, hn, ?_, ?_, hg.hc, hg.hcl, hg.hcv, hg.hp⟩
    · show (m.stk ++ [_]).length ≤ 16
      simp; omega
    · intro x hx
      rcases List.mem_append.1 hx with h | h
      · exact hg.hv x h
      · simp at h; subst h; exact hg.hv _ (top_mem _ (by omega))
  refine itep (P := PG s inp n) (fun hop => ?_) (fun h13 => ?_)
  · rw [hop] at hn hO
    have t3 : tk 13 = 0 := rfl
    have p3 : psh 13 = 1 := rfl
    refine itep (P := PG s inp n) (fun hp => ?_) (fun hneg => ?_)
    · intro _
      refine ⟨hg.hf, hn, ?_, ?_, hg.hc, hg.hcl, hg.hcv, by show m.pos + 1 ≤ inp.size; omega⟩
      · show (m.stk ++ [_]).length ≤ 16
        simp; omega
      · intro x hx
        rcases List.mem_append.1 hx with h | h
        · exact hg.hv x h
        · simp at h; subst h; exact bt_lt _ _
    · intro _
      refine ⟨hg.hf, hn, ?_, ?_, hg.hc, hg.hcl, hg.hcv, hg.hp⟩
      · show (m.stk ++ [_]).length ≤ 16
        simp; omega
      · intro x hx
        rcases List.mem_append.1 hx with h | h
        · exact hg.hv x h
        · simp at h; subst h; omega
  refine itep (P := PG s inp n) (fun hop => ?_) (fun h14 => ?_)
  · intro _
    rw [hop] at hn hO
    have t3 : tk 14 = 0 := rfl
    have p3 : psh 14 = 1 := rfl
    refine ⟨hg.hf, hn, ?_, ?_, hg.hc, hg.hcl, hg.hcv, hg.hp⟩
    · show (m.stk ++ [_]).length ≤ 16
      simp; omega
    · intro x hx
      rcases List.mem_append.1 hx with h | h
      · exact hg.hv x h
      · simp at h; subst h; split <;> omega
  refine itep (P := PG s inp n) (fun hop => ?_) (fun h15 => ?_)
  · rw [hop] at hn hO hU
    have t3 : tk 15 = 1 := rfl
    refine itep (P := PG s inp n) (fun hop => ?_) (fun hneg => ?_)
    · intro h; simp at h
    · intro _
      refine ⟨hg.hf, hn, ?_, ?_, hg.hc, hg.hcl, hg.hcv, hg.hp⟩
      · have := List.length_take_le (m.stk.length - 1) m.stk
        show (m.stk.take _ ++ [_]).length ≤ 16
        simp; omega
      · intro x hx
        rcases List.mem_append.1 hx with h | h
        · exact hg.hv x (mem_take h)
        · simp at h; subst h; exact hg.hc _
  refine itep (P := PG s inp n) (fun hop => ?_) (fun h16 => ?_)
  · rw [hop] at hn hO hU
    have t3 : tk 16 = 2 := rfl
    refine itep (P := PG s inp n) (fun hop => ?_) (fun hneg => ?_)
    · intro h; simp at h
    · intro _
      refine ⟨hg.hf, hn, ?_, fun x hx => hg.hv x (mem_take hx), ?_, hg.hcl, hg.hcv, hg.hp⟩
      · have := List.length_take_le (m.stk.length - 2) m.stk
        show (m.stk.take _).length ≤ 16
        omega
      · intro i
        show upc m.cel _ _ i < 256
        unfold upc
        split
        · exact hg.hv _ (snd_mem _ (by omega))
        · exact hg.hc i
  refine itep (P := PG s inp n) (fun hlast => ?_) (fun hlast => ?_)
  · intro h; simp at h
  · intro _
    have hsz : 4 ≤ bt s m.at_ ∧ bt s m.at_ ≤ 9 := by
      have h17' := (fn_mem s m.fn m.at_ hg.ha).2.2.2
      unfold sz at h17'
      split at h17'
      · omega
      · omega
    have t3 : tk (bt s m.at_) = 2 := by unfold tk; rw [if_neg (by omega), if_pos (by omega)]
    have s3 : sz (bt s m.at_) = 1 := by unfold sz; rw [if_neg (by omega), if_neg (by omega)]
    rw [s3] at hn
    rw [t3] at hU
    refine ⟨hg.hf, hn, ?_, ?_, hg.hc, hg.hcl, hg.hcv, hg.hp⟩
    · show (m.stk.take _ ++ [_]).length ≤ 16
      simp; omega
    · intro x hx
      rcases List.mem_append.1 hx with h | h
      · exact hg.hv x (mem_take h)
      · simp at h; subst h; exact ari_lt _ _ _ (hg.hv _ (snd_mem _ (by omega)))
/-- steps that do not go on leave the state. -/
theorem step_stays (s inp : ByteArray) (m : St) (h : (stepP s inp m).2 ≠ 0) : (stepP s inp m).1 = m := by
  have key : (fun r : St × Nat => r.2 ≠ 0 → r.1 = m) (stepP s inp m) := by
    unfold stepP
    repeat' (refine itep (P := fun r : St × Nat => r.2 ≠ 0 → r.1 = m) (fun _ => ?_) (fun _ => ?_))
    all_goals (intro h; first | rfl | exact absurd rfl h)
  exact key h
end Im
end Go.Proofs.YtbmaiioecnmopaaGreatDoor
