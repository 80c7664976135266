/-
  LawC, LawS: THESE TEXTS, JOINED. By the verifier of the loop 'triage'.
-/
import Derived.Test.YtbmaiioecnmopaaDoorJ29
/-
  THE LAW Runs: sites, SameSites, SameInts, report. By the verifier of the loop 'triage'.
-/
namespace Go.Proofs.YtbmaiioecnmopaaDoor
open Go.RowKit

set_option maxHeartbeats 3200000 in
set_option maxRecDepth 100000 in
theorem sameInts_any (A B : Nat) (a b : Value) (l : List Nat) (w : World) (ha : w.ownsRow A 3 1 a l.length (ints l)) (hb : w.ownsRow B 3 1 b l.length (ints l)) :
    Calls Tryd.prog 25 #[a, b] w fun e w' => e = .returned (.bool true) ∧ Below w.heap.size w w' := by
  obtain ⟨a1, cap1, hv1, hn1, hm1, hc1⟩ := owns_shape ha
  obtain ⟨a2, cap2, hv2, hn2, hm2, hc2⟩ := owns_shape hb
  subst hv1 hv2
  have hl : l.length ≤ maxLen := by omega
  unfold maxLen at hl
  obtain ⟨len, HLEN⟩ : ∃ len, Hid (l.length = len) := ⟨_, rfl⟩
  rw [HLEN.out] at hc1 hc2 hl ⊢
  clear ha hb hn1 hm1 hn2 hm2
  go_enter Tryd.func25, Tryd.ntmps25
  go_wp2
  go_loopw [5] (fun i wr => ∃ j : Nat, i = .int .i64 j ∧ j ≤ len ∧ Below w.heap.size w wr) (fun i _ => len - (intOf i).toNat)
  case atStart => exact ⟨0, rfl, by omega, Below.refl _ _⟩
  case round =>
    obtain ⟨j, rfl, hj, hB⟩ := hrel
    by_cases hlt : j < len
    · obtain ⟨g1, rfl, -, hg1, hx1⟩ := hc1 (by omega)
      obtain ⟨g2, rfl, -, hg2, hx2⟩ := hc2 (by omega)
      have x1 := (hB.cell (p := ⟨g1, j, none⟩) hg1).trans (hx1 j _ (ints_get l j (by rw [HLEN.out]; exact hlt)))
      have x2 := (hB.cell (p := ⟨g2, j, none⟩) hg2).trans (hx2 j _ (ints_get l j (by rw [HLEN.out]; exact hlt)))
      generalize l[j]?.getD 0 = x at *
      have HB : Hid _ := hB
      clear hc1 hc2 hx1 hx2 hB
      go_wp2
      go_quiet (fail)
      go_wp2
      go_roundw
      case rel => exact ⟨j + 1, by go_num, by omega, by first | exact HB.out | exact below_drewN _ HB.out | exact below_drewN _ (below_drewN _ HB.out)⟩
      case measure => simp [intOf]; omega
    · obtain rfl : j = len := by omega
      have HB : Hid _ := hB
      clear hc1 hc2 hB
      go_wp2
      go_ret
      exact ⟨rfl, HB.out⟩

set_option maxHeartbeats 3200000 in
set_option maxRecDepth 100000 in
theorem sameSites_any (A B : Nat) (a b : Value) (l : List (Nat × Nat)) (w : World) (hl : l.length ≤ 100) (ha : w.ownsRow A 48 2 a l.length (prs l)) (hb : w.ownsRow B 48 2 b l.length (prs l)) :
    Calls Tryd.prog 23 #[a, b] w fun e w' => e = .returned (.bool true) ∧ Below w.heap.size w w' := by
  obtain ⟨a1, cap1, hv1, hn1, hm1, hc1⟩ := owns_shape ha
  obtain ⟨a2, cap2, hv2, hn2, hm2, hc2⟩ := owns_shape hb
  subst hv1 hv2
  obtain ⟨len, HLEN⟩ : ∃ len, Hid (l.length = len) := ⟨_, rfl⟩
  rw [HLEN.out] at hc1 hc2 hl ⊢
  clear ha hb hn1 hm1 hn2 hm2
  go_enter Tryd.func23, Tryd.ntmps23
  go_wp2
  go_loopw [5] (fun i wr => ∃ j : Nat, i = .int .i64 j ∧ j ≤ len ∧ Below w.heap.size w wr) (fun i _ => len - (intOf i).toNat)
  case atStart => exact ⟨0, rfl, by omega, Below.refl _ _⟩
  case round =>
    obtain ⟨j, rfl, hj, hB⟩ := hrel
    by_cases hlt : j < len
    · obtain ⟨g1, rfl, -, hg1, hx1⟩ := hc1 (by omega)
      obtain ⟨g2, rfl, -, hg2, hx2⟩ := hc2 (by omega)
      obtain ⟨q0, q1⟩ := prs_get l j (by rw [HLEN.out]; exact hlt)
      have x1 := (hB.cell (p := ⟨g1, j * 2, none⟩) hg1).trans (hx1 _ _ q0)
      have x2 := (hB.cell (p := ⟨g2, j * 2, none⟩) hg2).trans (hx2 _ _ q0)
      have y1 := (hB.cell (p := ⟨g1, j * 2 + 1, none⟩) hg1).trans (hx1 _ _ q1)
      have y2 := (hB.cell (p := ⟨g2, j * 2 + 1, none⟩) hg2).trans (hx2 _ _ q1)
      generalize l[j]?.getD (0, 0) = x at *
      have HB : Hid _ := hB
      clear hc1 hc2 hx1 hx2 hB q0 q1
      go_wp2
      go_quiet (fail)
      go_wp2
      go_roundw
      case rel => exact ⟨j + 1, by go_num, by omega, by first | exact HB.out | exact below_drewN _ HB.out | exact below_drewN _ (below_drewN _ HB.out)⟩
      case measure => simp [intOf]; omega
    · obtain rfl : j = len := by omega
      have HB : Hid _ := hB
      clear hc1 hc2 hB
      go_wp2
      go_ret
      exact ⟨rfl, HB.out⟩
end Go.Proofs.YtbmaiioecnmopaaDoor

/-
  THE LAW Runs: sites. By the verifier of the loop 'triage'.
-/
namespace Go.Proofs.YtbmaiioecnmopaaDoor
open Go.RowKit

set_option maxHeartbeats 3200000 in
set_option maxRecDepth 100000 in
theorem sites_any (A : Nat) (a : Value) (l : List (Nat × Nat)) (w : World) (hl : l.length ≤ 100) (ha : w.ownsRow A 39 2 a l.length (prs l)) :
    Calls Tryd.prog 24 #[a] w fun e w' => ∃ v, e = .returned v ∧ w'.ownsRow w.heap.size 48 2 v l.length (prs l) ∧ Below w.heap.size w w' := by
  obtain ⟨i0, hi, hz0, hz1, hz2⟩ := info_parts Tryd.infoSite
  obtain ⟨a1, cap1, hv1, hn1, hm1, hc1⟩ := owns_shape ha
  subst hv1
  obtain ⟨len, HLEN⟩ : ∃ len, Hid (l.length = len) := ⟨_, rfl⟩
  rw [HLEN.out] at hc1 hl ⊢
  clear ha hn1 hm1
  go_enter Tryd.func24, Tryd.ntmps24
  go_wp2
  go_loopw [3, 4] (fun v i wr => ∃ j : Nat, i = .int .i64 j ∧ j ≤ len ∧ wr.ownsRow w.heap.size 48 2 v (l.take j).length (prs (l.take j)) ∧ Below w.heap.size w wr) (fun _ i _ => len - (intOf i).toNat)
  case atStart => exact ⟨0, rfl, by omega, World.ownsRow_nil _ _ _ _, Below.refl _ _⟩
  case round =>
    obtain ⟨j, rfl, hj, hown, hB⟩ := hrel
    by_cases hlt : j < len
    · obtain ⟨g1, rfl, -, hg1, hx1⟩ := hc1 (by omega)
      obtain ⟨q0, q1⟩ := prs_get l j (by rw [HLEN.out]; exact hlt)
      have x1 := (hB.cell (p := ⟨g1, j * 2, none⟩) hg1).trans (hx1 _ _ q0)
      have y1 := (hB.cell (p := ⟨g1, j * 2 + 1, none⟩) hg1).trans (hx1 _ _ q1)
      have HT : Hid (l.take (j + 1) = l.take j ++ [l[j]?.getD (0, 0)]) := by
        show l.take (j + 1) = _
        rw [List.take_add_one, List.getElem?_eq_getElem (by rw [HLEN.out]; exact hlt)]; rfl
      generalize l[j]?.getD (0, 0) = x at *
      have hlt2 : (l.take j).length ≤ 100 := by have := List.length_take_le j l; omega
      generalize l.take j = R at *
      obtain ⟨a2, cap2, hv2, -, -, -⟩ := owns_shape hown
      subst hv2
      clear hc1 hx1 q0 q1
      have hgw : g1 < wr.heap.size := Nat.lt_of_lt_of_le hg1 hB.size
      have hbs := hB.size
      go_wp2
      go_region_law (refine step_append_fresh rfl (.tmp 11) (.tmp 23) 49 rfl w.heap.size 48 i0 (.agg #[.int .i64 0, .int .i64 0]) 2 16 Tryd.undSites hi hz0 hz1 hz2 rfl (by decide) (.slice a2 R.length cap2) R.length (prs R) rfl (by exact hown.alloc _) ⟨wr.heap.size, 0, none⟩ 1 1 [.int .i64 (x.1 : Nat), .int .i64 (x.2 : Nat)] rfl rfl (by exact news2 _ _ _ _) (by exact ones2 _ _ _) (by unfold maxLen; omega) (by omega) (by exact Nat.le_trans hbs (by simp)) ?_; intro v' w1 hown' hgrow hfr; obtain ⟨g', cap', hv', -⟩ := owns_some hown' (by omega); subst hv')
      all_goals
        have hgrow2 : (wr.alloc (.cells #[.int .i64 (x.1 : Nat), .int .i64 (x.2 : Nat)] 48)).grownBy w1 (Value.slice a2 R.length cap2).ownBlock := ⟨hgrow.os, hgrow.tape, hgrow.output, hgrow.size, hgrow.block⟩
        have hb1 : Below w.heap.size w w1 := below_app hown hgrow2 hB hbs
        have ho1 : w1.ownsRow w.heap.size 48 2 (.slice (some ⟨g', 0, none⟩) (R.length + 1) cap') (l.take (j + 1)).length (prs (l.take (j + 1))) := by
          rw [HT.out, prs_append]
          simpa [prs] using hown'
        have HB1 : Hid _ := hb1
        have HO1 : Hid _ := ho1
        clear hown' hgrow hgrow2 hfr hown hB hb1 ho1 x1 y1
        go_wp2
        go_roundw
        case rel => exact ⟨j + 1, by go_num, by omega, HO1.out, HB1.out⟩
        case measure => simp [intOf]; omega
    · obtain rfl : j = len := by omega
      rw [List.take_of_length_le (by rw [HLEN.out]; omega), HLEN.out] at hown
      obtain ⟨a2, cap2, hv2, -, -, -⟩ := owns_shape hown
      subst hv2
      have HB : Hid _ := hB
      have HO : Hid _ := hown
      clear hc1 hB hown
      go_wp2
      go_ret
      exact ⟨_, rfl, HO.out, HB.out⟩
end Go.Proofs.YtbmaiioecnmopaaDoor
