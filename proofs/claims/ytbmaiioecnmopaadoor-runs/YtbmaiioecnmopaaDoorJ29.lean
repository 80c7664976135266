/-
  RefZD, LawC, LawS, LawB: THESE TEXTS, JOINED. By the verifier of the loop 'triage'.
-/
import Derived.Test.YtbmaiioecnmopaaDoorJ16
import Derived.Test.YtbmaiioecnmopaaDoorJ28
import Derived.Test.YtbmaiioecnmopaaDoorJ05
/-
  THE DOCUMENT's SIDE (package triageref): Run. By the verifier of the loop 'triage'.
-/
namespace Go.Proofs.YtbmaiioecnmopaaDoor
open Go.RowKit

set_option maxHeartbeats 1600000 in
/-- THE DOCUMENT's Run. -/
theorem refrun_any (s inp : ByteArray) (fuel : Int) (w : World) :
    Calls Tryd.prog 18 #[.string s, .string inp, .int .i64 fuel] w fun e w' => RunPost s inp fuel w w' e := by
  go_enter Tryd.func18, Tryd.ntmps18
  go_wp2_with fail
  refine (check_any s _).mono ?_
  rintro e w1 ⟨rfl, hb1⟩
  have hrb : w1.heap[w.heap.size]? = some (.cells #[.int .i64 0, .int .i64 0, .int .i64 0, .int .i64 0, .slice none 0 0, .slice none 0 0, .int .i64 0, .int .i64 0] 51 (0, 0)) := by
    rw [hb1.block w.heap.size (by simp)]; exact rheap_new _ _
  obtain ⟨⟨d0, d1, d2, d3, d4, d5, d6, d7⟩, ⟨f0, f1, f2, f3, f4, f5, f6, f7⟩⟩ := z8_of hrb
  have HB : Hid _ := hb1
  clear hb1
  by_cases h : (Im.chk s).1 = 0
  · have hcz := chk_zero s h
    rw [hcz]
    by_cases hi : 24 < inp.size
    · have HO : Hid (outP s inp fuel = (rz, 1, 0)) := by
        show outP s inp fuel = _
        unfold outP; rw [if_neg (by simpa using h), if_pos hi]
      go_wp2
      exact bodyPost_ret (v := .tuple #[.agg #[.int .i64 0, .int .i64 0, .int .i64 0, .int .i64 0, .slice none 0 0, .slice none 0 0, .int .i64 0, .int .i64 0], .int .i64 1, .int .i64 0]) (by simp [results, Tryd.results18, go_sem, d0, d1, d2, d3, d4, d5, d6, d7]) rfl (run_none HO.out HB.out _ _ _ _ _ _ _ _)
    · by_cases hf : fuel < 0 ∨ 2000 < fuel
      · have HO : Hid (outP s inp fuel = (rz, 6, 0)) := by
          show outP s inp fuel = _
          unfold outP; rw [if_neg (by simpa using h), if_neg hi, if_pos hf]
        by_cases hf0 : fuel < 0
        all_goals
          go_wp2
          exact bodyPost_ret (v := .tuple #[.agg #[.int .i64 0, .int .i64 0, .int .i64 0, .int .i64 0, .slice none 0 0, .slice none 0 0, .int .i64 0, .int .i64 0], .int .i64 6, .int .i64 0]) (by simp [results, Tryd.results18, go_sem, d0, d1, d2, d3, d4, d5, d6, d7]) rfl (run_none HO.out HB.out _ _ _ _ _ _ _ _)
      · obtain ⟨fu, rfl⟩ : ∃ fu : Nat, fuel = (fu : Int) := ⟨fuel.toNat, by omega⟩
        have HO : Hid (outP s inp (fu : Int) = (ofR (Im.runP s inp fu (Im.st0 s) 0), 0, 0)) := by
          show outP s inp (fu : Int) = _
          unfold outP; rw [if_neg (by simpa using h), if_neg hi, if_neg hf]; rfl
        have hf2 : fu ≤ 2000 := by omega
        have hi2 : inp.size ≤ 24 := by omega
        clear hf hi
        go_wp2_with fail
        refine (play_any s inp fu _ hcz hi2 hf2).mono ?_
        rintro e w2 ⟨v28, v29, rfl, h28, h29, hb2⟩
        have hz1 : w.heap.size < w1.heap.size := by have := HB.out.size; simp at this; omega
        have hrb2 := (hb2.block w.heap.size hz1).trans hrb
        clear d0 d1 d2 d3 d4 d5 d6 d7 f0 f1 f2 f3 f4 f5 f6 f7
        obtain ⟨⟨d0, d1, d2, d3, d4, d5, d6, d7⟩, ⟨f0, f1, f2, f3, f4, f5, f6, f7⟩⟩ := z8_of hrb2
        have HB2 : Hid (Below w1.heap.size w1 w2) := hb2
        obtain ⟨r, HR⟩ : ∃ r, Hid (Im.runP s inp fu (Im.st0 s) 0 = r) := ⟨_, rfl⟩
        rw [HR.out] at h28 h29 HO
        rw [HR.out]
        obtain ⟨a1, cap1, hv1, -, -, -⟩ := owns_shape h28
        obtain ⟨a2, cap2, hv2, -, -, -⟩ := owns_shape h29
        subst hv1 hv2
        have H28 : Hid _ := h28
        have H29 : Hid _ := h29
        clear hb2 h28 h29 hrb hrb2
        go_wp2
        refine bodyPost_ret (v := .tuple #[.agg #[.int .i64 (r.1 : Nat), .int .i64 (rfa r : Nat), .int .i64 (rpa r : Nat), .int .i64 (r.2.1 : Nat), .slice a1 (rsts r).length cap1, .slice a2 (Im.el r.2.2.1.edg).length cap2, .int .i64 (r.2.2.2 : Nat), .int .i64 (rtop r)], .int .i64 0, .int .i64 0]) (by simp [results, Tryd.results18, go_sem, d0, d1, d2, d3, d4, d5, d6, d7]) rfl ?_
        unfold RunPost
        rw [HO.out]
        exact ⟨_, rfl, ⟨_, _, rfl, owns_base (put8_owns H28.out hz1) (Nat.le_of_lt hz1), owns_base (put8_owns H29.out hz1) (Nat.le_of_lt hz1)⟩, put8_below ((below_new HB.out).trans (HB2.out.mono (Nat.le_of_lt hz1))) (Nat.le_refl _)⟩
  · have hb : ((Im.chk s).1 != 0) = true := by simpa using h
    have HO : Hid (outP s inp fuel = (rz, (Im.chk s).1, (Im.chk s).2)) := by
      show outP s inp fuel = _
      unfold outP; rw [if_pos h]
    clear h
    go_wp2
    exact bodyPost_ret (v := .tuple #[.agg #[.int .i64 0, .int .i64 0, .int .i64 0, .int .i64 0, .slice none 0 0, .slice none 0 0, .int .i64 0, .int .i64 0], .int .i64 (Im.chk s).1, .int .i64 (Im.chk s).2]) (by simp [results, Tryd.results18, go_sem, d0, d1, d2, d3, d4, d5, d6, d7]) rfl (run_none HO.out HB.out _ _ _ _ _ _ _ _)
end Go.Proofs.YtbmaiioecnmopaaDoor

/-
  THE LAW Runs: sites, SameSites, SameInts, report. By the verifier of the loop 'triage'.
-/
namespace Go.Proofs.YtbmaiioecnmopaaDoor
open Go.RowKit

set_option maxHeartbeats 3200000 in
set_option maxRecDepth 100000 in
theorem sameInts_any (A B : Nat) (a b : Value) (l : List Nat) (w : World) (ha : w.ownsRow A 3 1 a l.length (ints l)) (hb : w.ownsRow B 3 1 b l.length (ints l)) :
    Calls Tryd.prog 25 #[a, b] w fun e w' => e = .returned (.bool true) ∧ Below w.heap.size w w' := by
  obtain ⟨a1, cap1, hv1, hn1, hm1, hc1⟩ := owns_shape ha
  obtain ⟨a2, cap2, hv2, hn2, hm2, hc2⟩ := owns_shape hb
  subst hv1 hv2
  have hl : l.length ≤ maxLen := by omega
  unfold maxLen at hl
  obtain ⟨len, HLEN⟩ : ∃ len, Hid (l.length = len) := ⟨_, rfl⟩
  rw [HLEN.out] at hc1 hc2 hl ⊢
  clear ha hb hn1 hm1 hn2 hm2
  go_enter Tryd.func25, Tryd.ntmps25
  go_wp2
  go_loopw [5] (fun i wr => ∃ j : Nat, i = .int .i64 j ∧ j ≤ len ∧ Below w.heap.size w wr) (fun i _ => len - (intOf i).toNat)
  case atStart => exact ⟨0, rfl, by omega, Below.refl _ _⟩
  case round =>
    obtain ⟨j, rfl, hj, hB⟩ := hrel
    by_cases hlt : j < len
    · obtain ⟨g1, rfl, -, hg1, hx1⟩ := hc1 (by omega)
      obtain ⟨g2, rfl, -, hg2, hx2⟩ := hc2 (by omega)
      have x1 := (hB.cell (p := ⟨g1, j, none⟩) hg1).trans (hx1 j _ (ints_get l j (by rw [HLEN.out]; exact hlt)))
      have x2 := (hB.cell (p := ⟨g2, j, none⟩) hg2).trans (hx2 j _ (ints_get l j (by rw [HLEN.out]; exact hlt)))
      generalize l[j]?.getD 0 = x at *
      have HB : Hid _ := hB
      clear hc1 hc2 hx1 hx2 hB
      go_wp2
      go_quiet (fail)
      go_wp2
      go_roundw
      case rel => exact ⟨j + 1, by go_num, by omega, by first | exact HB.out | exact below_drewN _ HB.out | exact below_drewN _ (below_drewN _ HB.out)⟩
      case measure => simp [intOf]; omega
    · obtain rfl : j = len := by omega
      have HB : Hid _ := hB
      clear hc1 hc2 hB
      go_wp2
      go_ret
      exact ⟨rfl, HB.out⟩

set_option maxHeartbeats 3200000 in
set_option maxRecDepth 100000 in
theorem sameSites_any (A B : Nat) (a b : Value) (l : List (Nat × Nat)) (w : World) (hl : l.length ≤ 100) (ha : w.ownsRow A 48 2 a l.length (prs l)) (hb : w.ownsRow B 48 2 b l.length (prs l)) :
    Calls Tryd.prog 23 #[a, b] w fun e w' => e = .returned (.bool true) ∧ Below w.heap.size w w' := by
  obtain ⟨a1, cap1, hv1, hn1, hm1, hc1⟩ := owns_shape ha
  obtain ⟨a2, cap2, hv2, hn2, hm2, hc2⟩ := owns_shape hb
  subst hv1 hv2
  obtain ⟨len, HLEN⟩ : ∃ len, Hid (l.length = len) := ⟨_, rfl⟩
  rw [HLEN.out] at hc1 hc2 hl ⊢
  clear ha hb hn1 hm1 hn2 hm2
  go_enter Tryd.func23, Tryd.ntmps23
  go_wp2
  go_loopw [5] (fun i wr => ∃ j : Nat, i = .int .i64 j ∧ j ≤ len ∧ Below w.heap.size w wr) (fun i _ => len - (intOf i).toNat)
  case atStart => exact ⟨0, rfl, by omega, Below.refl _ _⟩
  case round =>
    obtain ⟨j, rfl, hj, hB⟩ := hrel
    by_cases hlt : j < len
    · obtain ⟨g1, rfl, -, hg1, hx1⟩ := hc1 (by omega)
      obtain ⟨g2, rfl, -, hg2, hx2⟩ := hc2 (by omega)
      obtain ⟨q0, q1⟩ := prs_get l j (by rw [HLEN.out]; exact hlt)
      have x1 := (hB.cell (p := ⟨g1, j * 2, none⟩) hg1).trans (hx1 _ _ q0)
      have x2 := (hB.cell (p := ⟨g2, j * 2, none⟩) hg2).trans (hx2 _ _ q0)
      have y1 := (hB.cell (p := ⟨g1, j * 2 + 1, none⟩) hg1).trans (hx1 _ _ q1)
      have y2 := (hB.cell (p := ⟨g2, j * 2 + 1, none⟩) hg2).trans (hx2 _ _ q1)
      generalize l[j]?.getD (0, 0) = x at *
      have HB : Hid _ := hB
      clear hc1 hc2 hx1 hx2 hB q0 q1
      go_wp2
      go_quiet (fail)
      go_wp2
      go_roundw
      case rel => exact ⟨j + 1, by go_num, by omega, by first | exact HB.out | exact below_drewN _ HB.out | exact below_drewN _ (below_drewN _ HB.out)⟩
      case measure => simp [intOf]; omega
    · obtain rfl : j = len := by omega
      have HB : Hid _ := hB
      clear hc1 hc2 hB
      go_wp2
      go_ret
      exact ⟨rfl, HB.out⟩
end Go.Proofs.YtbmaiioecnmopaaDoor

/-
  THE LAW Runs: sites. By the verifier of the loop 'triage'.
-/
namespace Go.Proofs.YtbmaiioecnmopaaDoor
open Go.RowKit

set_option maxHeartbeats 3200000 in
set_option maxRecDepth 100000 in
theorem sites_any (A : Nat) (a : Value) (l : List (Nat × Nat)) (w : World) (hl : l.length ≤ 100) (ha : w.ownsRow A 39 2 a l.length (prs l)) :
    Calls Tryd.prog 24 #[a] w fun e w' => ∃ v, e = .returned v ∧ w'.ownsRow w.heap.size 48 2 v l.length (prs l) ∧ Below w.heap.size w w' := by
  obtain ⟨i0, hi, hz0, hz1, hz2⟩ := info_parts Tryd.infoSite
  obtain ⟨a1, cap1, hv1, hn1, hm1, hc1⟩ := owns_shape ha
  subst hv1
  obtain ⟨len, HLEN⟩ : ∃ len, Hid (l.length = len) := ⟨_, rfl⟩
  rw [HLEN.out] at hc1 hl ⊢
  clear ha hn1 hm1
  go_enter Tryd.func24, Tryd.ntmps24
  go_wp2
  go_loopw [3, 4] (fun v i wr => ∃ j : Nat, i = .int .i64 j ∧ j ≤ len ∧ wr.ownsRow w.heap.size 48 2 v (l.take j).length (prs (l.take j)) ∧ Below w.heap.size w wr) (fun _ i _ => len - (intOf i).toNat)
  case atStart => exact ⟨0, rfl, by omega, World.ownsRow_nil _ _ _ _, Below.refl _ _⟩
  case round =>
    obtain ⟨j, rfl, hj, hown, hB⟩ := hrel
    by_cases hlt : j < len
    · obtain ⟨g1, rfl, -, hg1, hx1⟩ := hc1 (by omega)
      obtain ⟨q0, q1⟩ := prs_get l j (by rw [HLEN.out]; exact hlt)
      have x1 := (hB.cell (p := ⟨g1, j * 2, none⟩) hg1).trans (hx1 _ _ q0)
      have y1 := (hB.cell (p := ⟨g1, j * 2 + 1, none⟩) hg1).trans (hx1 _ _ q1)
      have HT : Hid (l.take (j + 1) = l.take j ++ [l[j]?.getD (0, 0)]) := by
        show l.take (j + 1) = _
        rw [List.take_add_one, List.getElem?_eq_getElem (by rw [HLEN.out]; exact hlt)]; rfl
      generalize l[j]?.getD (0, 0) = x at *
      have hlt2 : (l.take j).length ≤ 100 := by have := List.length_take_le j l; omega
      generalize l.take j = R at *
      obtain ⟨a2, cap2, hv2, -, -, -⟩ := owns_shape hown
      subst hv2
      clear hc1 hx1 q0 q1
      have hgw : g1 < wr.heap.size := Nat.lt_of_lt_of_le hg1 hB.size
      have hbs := hB.size
      go_wp2
      go_region_law (refine step_append_fresh rfl (.tmp 11) (.tmp 23) 49 rfl w.heap.size 48 i0 (.agg #[.int .i64 0, .int .i64 0]) 2 16 Tryd.undSites hi hz0 hz1 hz2 rfl (by decide) (.slice a2 R.length cap2) R.length (prs R) rfl (by exact hown.alloc _) ⟨wr.heap.size, 0, none⟩ 1 1 [.int .i64 (x.1 : Nat), .int .i64 (x.2 : Nat)] rfl rfl (by exact news2 _ _ _ _) (by exact ones2 _ _ _) (by unfold maxLen; omega) (by omega) (by exact Nat.le_trans hbs (by simp)) ?_; intro v' w1 hown' hgrow hfr; obtain ⟨g', cap', hv', -⟩ := owns_some hown' (by omega); subst hv')
      all_goals
        have hgrow2 : (wr.alloc (.cells #[.int .i64 (x.1 : Nat), .int .i64 (x.2 : Nat)] 48)).grownBy w1 (Value.slice a2 R.length cap2).ownBlock := ⟨hgrow.os, hgrow.tape, hgrow.output, hgrow.size, hgrow.block⟩
        have hb1 : Below w.heap.size w w1 := below_app hown hgrow2 hB hbs
        have ho1 : w1.ownsRow w.heap.size 48 2 (.slice (some ⟨g', 0, none⟩) (R.length + 1) cap') (l.take (j + 1)).length (prs (l.take (j + 1))) := by
          rw [HT.out, prs_append]
          simpa [prs] using hown'
        have HB1 : Hid _ := hb1
        have HO1 : Hid _ := ho1
        clear hown' hgrow hgrow2 hfr hown hB hb1 ho1 x1 y1
        go_wp2
        go_roundw
        case rel => exact ⟨j + 1, by go_num, by omega, HO1.out, HB1.out⟩
        case measure => simp [intOf]; omega
    · obtain rfl : j = len := by omega
      rw [List.take_of_length_le (by rw [HLEN.out]; omega), HLEN.out] at hown
      obtain ⟨a2, cap2, hv2, -, -, -⟩ := owns_shape hown
      subst hv2
      have HB : Hid _ := hB
      have HO : Hid _ := hown
      clear hc1 hB hown
      go_wp2
      go_ret
      exact ⟨_, rfl, HO.out, HB.out⟩
end Go.Proofs.YtbmaiioecnmopaaDoor

/-
  THE LAWS Checks AND Explains: their walks. By the verifier of the loop 'triage'.
-/
namespace Go.Proofs.YtbmaiioecnmopaaDoor
open Go.RowKit Go.Extern.Stop Go.Stop Go.Extern

set_option maxHeartbeats 400000 in
theorem checks_walk (s : ByteArray) (w : World) (hG : Glob w) : Calls Tryd.prog 3 #[.string s] w fun e w' => e = .returned (.bool true) ∧ Below w.heap.size w w' := by
  have HG : Hid (Glob w) := hG
  clear hG
  go_enter Tryd.func3, Tryd.ntmps3
  go_wp2_with fail
  refine (codeCheck_any s _ HG.out).mono ?_
  rintro e w1 ⟨rfl, hb1⟩
  go_wp2_with fail
  refine (check_any s _).mono ?_
  rintro e w2 ⟨rfl, hb2⟩
  have hB := hb1.trans (hb2.mono hb1.size)
  clear hb1 hb2
  generalize (Im.chk s).1 = c at *
  generalize (Im.chk s).2 = p at *
  go_wp2_with (go_at_call 13; refine (num_any _ _).mono ?_; rintro e w' ⟨rfl, rfl⟩)
  go_ret
  exact ⟨by simp, hB⟩

set_option maxHeartbeats 1600000 in
theorem explains_walk (s : ByteArray) (w : World) (hG : Glob w) : Calls Tryd.prog 4 #[.string s] w fun e w' => e = .returned (.bool true) ∧ Below w.heap.size w w' := by
  have HG : Hid (Glob w) := hG
  clear hG
  go_enter Tryd.func4, Tryd.ntmps4
  go_wp2_with fail
  refine (explain_any s _ HG.out.tab).mono ?_
  rintro e w1 (⟨hc, er, rfl, hw, hb⟩ | ⟨hc, rfl, hb⟩)
  · have HW : Hid (Wrapped w.heap.size w1 er (Im.chk s).1 (Im.chk s).2) := hw
    have hne : ((Im.chk s).1 == 0) = false := by rw [beq_eq_false_iff_ne]; exact hc
    obtain ⟨t, b, rfl⟩ := wrapped_shape hw
    clear hc hw
    go_wp2_with fail
    refine (check_any s _).mono ?_
    rintro e w2 ⟨rfl, hb2⟩
    have hB := hb.trans (hb2.mono hb.size)
    have HG2 : Hid (Glob w2) := HG.out.below hB
    have HW2 : Hid (Wrapped w.heap.size w2 (.iface t (.pointer (some ⟨b, 0, none⟩))) (Im.chk s).1 (Im.chk s).2) := HW.out.below hb2
    clear hb hb2 HW HG
    generalize (Im.chk s).1 = c at *
    generalize (Im.chk s).2 = p at *
    obtain ⟨bb, hbr⟩ := HG2.out.br
    have hlt := cell_lt hbr
    have htc : (w2.alloc (.cells #[.pointer none] 32)).cell? ⟨w2.heap.size, 0, none⟩ = some (.pointer none) := by simp
    have htf : (w2.alloc (.cells #[.pointer none] 32)).frozen? ⟨w2.heap.size, 0, none⟩ = false := by simp
    have HET : Hid ((w2.alloc (.cells #[.pointer none] 32)).cell? ⟨1, 0, none⟩ = some (.iface 145 (.agg #[.pointer (some ⟨3, 30, none⟩)]))) := (World.cell?_alloc_lt w2 (.cells #[.pointer none] 32) ⟨1, 0, none⟩ (cell_lt HG2.out.et)).trans HG2.out.et
    have hbA : Below w2.heap.size w2 (w2.alloc (.cells #[.pointer none] 32)) := (Below.refl _ _).alloc (Nat.le_refl _) _
    rcases HW2.out with ⟨x, hx0, _, hx⟩ | ⟨y, f, fl, hy0, _, hy, ⟨x, rfl, _, hx⟩⟩
    · obtain ⟨rfl, rfl⟩ : t = 32 ∧ b = x := by simpa using hx0
      clear hx0 HW2
      have hxl : b < w2.heap.size := (Array.getElem?_eq_some_iff.1 hx).1
      have HX : Hid (w2.heap[b]? = some (.cells #[.int .i64 c, .int .i64 p] 37 (0, 0))) := hx
      clear hx
      go_wp2_with fail
      refine (as_flaw _ _ _ _ HET.out htc htf).mono ?_
      intro e w3 has
      obtain ⟨rfl, hc2, hgr⟩ := as_world htc has
      have hx2 : w3.heap[b]? = some (.cells #[.int .i64 c, .int .i64 p] 37 (0, 0)) := by
        rw [hgr.block b (by simp; omega) (by simp; omega), Below.heap_alloc _ _ _ hxl]; exact HX.out
      have x0 : w3.cell? ⟨b, 0, none⟩ = some (.int .i64 c) := cell_of_heap hx2 rfl
      have x1 : w3.cell? ⟨b, 1, none⟩ = some (.int .i64 p) := cell_of_heap hx2 rfl
      have hB2 : Below w2.heap.size w2 w3 := hbA.grown hgr (by simp) (fun k hk => by simp at hk; omega)
      have hbr3 := (hB2.cell (p := ⟨0, 0, none⟩) hlt).trans hbr
      have hB3 := hB.trans (hB2.mono hB.size)
      clear has hgr hx2 htc htf hB2 hB hbA
      go_wp2_with fail
      refine (is_flaw _ bb _ hbr3).mono ?_
      rintro e w' ⟨rfl, rfl⟩
      go_wp2_with (go_at_call 13; refine (num_any _ _).mono ?_; rintro e w' ⟨rfl, rfl⟩)
      go_ret
      exact ⟨by simp, hB3⟩
    · obtain ⟨rfl, rfl⟩ : t = 141 ∧ b = y := by simpa using hy0
      clear hy0 HW2
      have hxl : x < w2.heap.size := (Array.getElem?_eq_some_iff.1 hx).1
      have hyl : b < w2.heap.size := (Array.getElem?_eq_some_iff.1 hy).1
      have HX : Hid (w2.heap[x]? = some (.cells #[.int .i64 c, .int .i64 p] 37 (0, 0))) := hx
      have hyc : (w2.alloc (.cells #[.pointer none] 32)).cell? ⟨b, 1, none⟩ = some (.iface 32 (.pointer (some ⟨x, 0, none⟩))) := (hbA.cell (p := ⟨b, 1, none⟩) hyl).trans (cell_of_heap hy rfl)
      have HY : Hid (w2.cell? ⟨b, 1, none⟩ = some (.iface 32 (.pointer (some ⟨x, 0, none⟩)))) := cell_of_heap hy rfl
      clear hx hy
      go_wp2_with fail
      refine (as_wrap b ⟨x, 0, none⟩ _ _ _ hyc HET.out htc htf).mono ?_
      intro e w3 has
      obtain ⟨rfl, hc2, hgr⟩ := as_world htc has
      have hx2 : w3.heap[x]? = some (.cells #[.int .i64 c, .int .i64 p] 37 (0, 0)) := by
        rw [hgr.block x (by simp; omega) (by simp; omega), Below.heap_alloc _ _ _ hxl]; exact HX.out
      have x0 : w3.cell? ⟨x, 0, none⟩ = some (.int .i64 c) := cell_of_heap hx2 rfl
      have x1 : w3.cell? ⟨x, 1, none⟩ = some (.int .i64 p) := cell_of_heap hx2 rfl
      have hB2 : Below w2.heap.size w2 w3 := hbA.grown hgr (by simp) (fun k hk => by simp at hk; omega)
      have hbr3 := (hB2.cell (p := ⟨0, 0, none⟩) hlt).trans hbr
      have hy3 := (hB2.cell (p := ⟨b, 1, none⟩) hyl).trans HY.out
      have hB3 := hB.trans (hB2.mono hB.size)
      clear has hgr hx2 htc htf hB2 hB hyc hbA
      go_wp2_with fail
      refine (is_wrap b ⟨x, 0, none⟩ bb _ hbr3 hy3).mono ?_
      rintro e w' ⟨rfl, rfl⟩
      go_wp2_with (go_at_call 13; refine (num_any _ _).mono ?_; rintro e w' ⟨rfl, rfl⟩)
      go_ret
      exact ⟨by simp, hB3⟩
  · have HC : Hid (Im.chk s = (0, 0)) := hc
    clear hc
    go_wp2_with fail
    refine (check_any s _).mono ?_
    rintro e w2 ⟨rfl, hb2⟩
    have hB := hb.trans (hb2.mono hb.size)
    clear hb hb2
    rw [HC.out]
    go_wp2
    go_ret
    exact ⟨by simp, hB⟩
end Go.Proofs.YtbmaiioecnmopaaDoor
