/-
  BuJ, BuK, BuL, BuO, BuN, BuQ: THESE TEXTS, JOINED. By the verifier of the loop 'triage'.
-/
import Derived.Test.YtbmaiioecnmopabGreatDoorJ37
import Derived.Deep.RegionHeld3
import Derived.Test.YtbmaiioecnmopabGreatDoorJ34
/-
  BUNDLES, THE LAWS: sites, of numbers of any sign. By the verifier of the loop 'triage'.
-/
namespace Go.Proofs.YtbmaiioecnmopabGreatDoor
open Go.RowKit

set_option maxHeartbeats 3200000 in
set_option maxRecDepth 100000 in
theorem sitesI_any (a : Value) (l : List (Int × Int)) (w : World) (hl : l.length ≤ 8796093022000) (ha : Rd w l.length a (prI l)) :
    Calls Tryz.prog 26 #[a] w fun e w' => ∃ v, e = .returned v ∧ w'.ownsRow w.heap.size 76 2 v l.length (prI l) ∧ Below w.heap.size w w' := by
  obtain ⟨i0, hi, hz0, hz1, hz2⟩ := info_parts Tryz.infoSite
  obtain ⟨a1, cap1, hv1, hn1, hm1, hc1⟩ := ha
  subst hv1
  obtain ⟨len, HLEN⟩ : ∃ len, Hid (l.length = len) := ⟨_, rfl⟩
  rw [HLEN.out] at hc1 hl ⊢
  clear hn1
  unfold maxLen at hm1
  go_enter Tryz.func26, Tryz.ntmps26
  go_wp2
  go_loopw [3, 4] (fun v i wr => ∃ j : Nat, i = .int .i64 j ∧ j ≤ len ∧ wr.ownsRow w.heap.size 76 2 v (l.take j).length (prI (l.take j)) ∧ Below w.heap.size w wr) (fun _ i _ => len - (intOf i).toNat)
  case atStart => exact ⟨0, rfl, by omega, World.ownsRow_nil _ _ _ _, Below.refl _ _⟩
  case round =>
    obtain ⟨j, rfl, hj, hown, hB⟩ := hrel
    by_cases hlt : j < len
    · obtain ⟨g1, o1, rfl, hg1, hx1⟩ := hc1 (by omega)
      obtain ⟨q0, q1⟩ := prI_get l j (by rw [HLEN.out]; exact hlt)
      have x1 := (hB.cell (p := ⟨g1, o1 + j * 2, none⟩) hg1).trans (hx1 _ _ q0)
      have y1 := (hB.cell (p := ⟨g1, o1 + (j * 2 + 1), none⟩) hg1).trans (hx1 _ _ q1)
      rw [← Nat.add_assoc] at y1
      have HT : Hid (l.take (j + 1) = l.take j ++ [l[j]?.getD (0, 0)]) := by
        show l.take (j + 1) = _
        rw [List.take_add_one, List.getElem?_eq_getElem (by rw [HLEN.out]; exact hlt)]; rfl
      generalize l[j]?.getD (0, 0) = x at *
      have hlt2 : (l.take j).length ≤ 8796093022000 := by have := List.length_take_le j l; omega
      generalize l.take j = R at *
      obtain ⟨a2, cap2, hv2, -, -, -⟩ := owns_shape hown
      subst hv2
      clear hc1 hx1 q0 q1
      have hgw : g1 < wr.heap.size := Nat.lt_of_lt_of_le hg1 hB.size
      have hbs := hB.size
      go_wp2
      go_region_law (refine step_append_fresh rfl (.tmp 11) (.tmp 23) 29 rfl w.heap.size 76 i0 (.agg #[.int .i64 0, .int .i64 0]) 2 16 Tryz.undSites hi hz0 hz1 hz2 rfl (by decide) (.slice a2 R.length cap2) R.length (prI R) rfl (by exact hown.alloc _) ⟨wr.heap.size, 0, none⟩ 1 1 [.int .i64 x.1, .int .i64 x.2] rfl rfl (by exact news2 _ _ _ _) (by exact ones2 _ _ _) (by unfold maxLen; omega) (by omega) (by exact Nat.le_trans hbs (by simp)) ?_; intro v' w1 hown' hgrow hfr; obtain ⟨g', cap', hv', -⟩ := owns_some hown' (by omega); subst hv')
      all_goals
        have hgrow2 : (wr.alloc (.cells #[.int .i64 x.1, .int .i64 x.2] 76)).grownBy w1 (Value.slice a2 R.length cap2).ownBlock := ⟨hgrow.os, hgrow.tape, hgrow.output, hgrow.size, hgrow.block⟩
        have hb1 : Below w.heap.size w w1 := below_app hown hgrow2 hB hbs
        have ho1 : w1.ownsRow w.heap.size 76 2 (.slice (some ⟨g', 0, none⟩) (R.length + 1) cap') (l.take (j + 1)).length (prI (l.take (j + 1))) := by
          rw [HT.out, prI_append]
          simpa [prI] using hown'
        have HB1 : Hid _ := hb1
        have HO1 : Hid _ := ho1
        clear hown' hgrow hgrow2 hfr hown hB hb1 ho1 x1 y1
        go_wp2
        go_roundw
        case rel => exact ⟨j + 1, by go_num, by omega, HO1.out, HB1.out⟩
        case measure => simp [intOf]; omega
    · obtain rfl : j = len := by omega
      rw [List.take_of_length_le (by rw [HLEN.out]; omega), HLEN.out] at hown
      obtain ⟨a2, cap2, hv2, -, -, -⟩ := owns_shape hown
      subst hv2
      have HB : Hid _ := hB
      have HO : Hid _ := hown
      clear hc1 hB hown
      go_wp2
      go_ret
      exact ⟨_, rfl, HO.out, HB.out⟩
end Go.Proofs.YtbmaiioecnmopabGreatDoor

/-
  BUNDLES, THE LAWS: plain. By the verifier of the loop 'triage'.
-/
namespace Go.Proofs.YtbmaiioecnmopabGreatDoor
open Go.RowKit

theorem inI_app (a b : List Int) : inI (a ++ b) = inI a ++ inI b := by simp [inI]
theorem take_snoc {α : Type} (l : List α) (j : Nat) (d : α) (h : j < l.length) : l.take (j + 1) = l.take j ++ [l[j]?.getD d] := by
  rw [List.take_add_one, List.getElem?_eq_getElem h]; rfl
theorem put7_cell {w : World} {b B o : Nat} {v0 v1 v2 v3 v4 v5 v6 : Value} (h : B ≠ b) : (put7 w b v0 v1 v2 v3 v4 v5 v6).cell? ⟨B, o, none⟩ = w.cell? ⟨B, o, none⟩ := by
  have e : ∀ (W : World) (i : Nat) (v : Value), (W.setCell ⟨b, i, none⟩ v).cell? ⟨B, o, none⟩ = W.cell? ⟨B, o, none⟩ := fun W i v => World.cell?_setCell_other _ _ _ _ (fun e => h (congrArg Addr.block e).symm)
  unfold put7
  rw [e, e, e, e, e, e, e]
theorem undrew' {w w2 : World} (h : Below w.drew.heap.size w.drew w2) : Below w.heap.size w w2 := ⟨h.os, h.tape, h.output, h.size, h.block⟩
/-- what plain answers: the same bundle, in new memory. -/
def PlainP (im inp : ByteArray) (fu de kd : Int) (sts : List (Int × Int)) (eds : List Int) (w w' : World) (e : Ending) : Prop :=
  ∃ sv ev, e = .returned (bunV im inp fu de kd sv ev) ∧ w'.ownsRow w.heap.size 76 2 sv sts.length (prI sts) ∧ w'.ownsRow w.heap.size 3 1 ev eds.length (inI eds) ∧ Below w.heap.size w w'

set_option maxHeartbeats 1600000 in
set_option maxRecDepth 100000 in
theorem plain_any (im inp : ByteArray) (fu de kd : Int) (sv ev : Value) (sts : List (Int × Int)) (eds : List Int) (w : World) (hb1 : sts.length ≤ 8796093022000) (hb2 : eds.length ≤ 17592186043904) (hS : Rd w sts.length sv (prI sts)) (hE : Rd w eds.length ev (inI eds)) :
    Calls Tryz.prog 7 #[bunV im inp fu de kd sv ev] w fun e w' => PlainP im inp fu de kd sts eds w w' e := by
  obtain ⟨i0, hi, hz0, hz1, hz2⟩ := info_parts Tryz.infoInt
  have HS : Hid (Rd w sts.length sv (prI sts)) := hS
  obtain ⟨qs, cs, hvs, -, -, -⟩ := hS
  obtain ⟨qe, ce, hve, -, hme, hEc⟩ := hE
  subst hvs hve
  unfold bunV
  unfold maxLen at hme
  obtain ⟨ns, HNS⟩ := nm sts.length
  obtain ⟨ne, HNE⟩ := nm eds.length
  rw [HNS.out] at HS hb1
  rw [HNE.out] at hb2 hEc
  rw [HNS.out, HNE.out]
  go_enter Tryz.func7, Tryz.ntmps7
  go_wp2
  obtain ⟨W0, HW0⟩ := nm ((w.alloc (.cells #[.string im, .int .i64 fu, .int .i64 de, .string inp, .int .i64 kd, .slice qs ns cs, .slice qe ne ce] 25)).alloc (.cells #[.string ⟨#[]⟩, .int .i64 0, .int .i64 0, .string ⟨#[]⟩, .int .i64 0, .slice none 0 0, .slice none 0 0] 31))
  rw [HW0.out]
  have hz : W0.heap.size = w.heap.size + 2 := by rw [← HW0.out]; simp
  have HBW : Hid (Below w.heap.size w W0) := by rw [← HW0.out]; exact ((Below.refl _ _).alloc (Nat.le_refl _) _).alloc (by simp) _
  have hk0 : W0.heap[w.heap.size]? = some (.cells #[.string im, .int .i64 fu, .int .i64 de, .string inp, .int .i64 kd, .slice qs ns cs, .slice qe ne ce] 25) := by rw [← HW0.out]; exact (Below.heap_alloc _ _ _ (by simp)).trans (hp_new _ _)
  have hk1 : W0.heap[w.heap.size + 1]? = some (.cells #[.string ⟨#[]⟩, .int .i64 0, .int .i64 0, .string ⟨#[]⟩, .int .i64 0, .slice none 0 0, .slice none 0 0] 31) := by
    rw [← HW0.out]
    have := hp_new (w.alloc (.cells #[.string im, .int .i64 fu, .int .i64 de, .string inp, .int .i64 kd, .slice qs ns cs, .slice qe ne ce] 25)) (.cells #[.string ⟨#[]⟩, .int .i64 0, .int .i64 0, .string ⟨#[]⟩, .int .i64 0, .slice none 0 0, .slice none 0 0] 31)
    rw [World.size_alloc] at this
    exact this
  have HK0 : Hid (W0.heap[w.heap.size]? = some (.cells #[.string im, .int .i64 fu, .int .i64 de, .string inp, .int .i64 kd, .slice qs ns cs, .slice qe ne ce] 25)) := hk0
  have HK1 : Hid (W0.heap[w.heap.size + 1]? = some (.cells #[.string ⟨#[]⟩, .int .i64 0, .int .i64 0, .string ⟨#[]⟩, .int .i64 0, .slice none 0 0, .slice none 0 0] 31)) := hk1
  clear hk0 hk1
  go_loopw [3, 4] (fun v i wr => ∃ j : Nat, i = .int .i64 j ∧ j ≤ ne ∧ wr.ownsRow (w.heap.size + 2) 3 1 v (eds.take j).length (inI (eds.take j)) ∧ Below (w.heap.size + 2) W0 wr) (fun _ i _ => ne - (intOf i).toNat)
  case atStart => exact ⟨0, rfl, by omega, World.ownsRow_nil _ _ _ _, Below.refl _ _⟩
  case round =>
    obtain ⟨j, rfl, hj, hown, hb⟩ := hrel
    obtain ⟨a2, c2, hv2, -⟩ := owns_shape hown
    subst hv2
    obtain ⟨x0, x1, x2, x3, x4, x5, x6⟩ := z7_of ((hb.block w.heap.size (by omega)).trans HK0.out)
    have hbs := hb.size
    by_cases hlt : j < ne
    · obtain ⟨g, o, rfl, hg, hx⟩ := hEc (by omega)
      have y := (hb.cell (p := ⟨g, o + j, none⟩) (by show g < w.heap.size + 2; omega)).trans ((HBW.out.cell (p := ⟨g, o + j, none⟩) hg).trans (hx j _ (inI_get eds j (by rw [HNE.out]; exact hlt))))
      have HT : Hid (eds.take (j + 1) = eds.take j ++ [eds[j]?.getD 0]) := take_snoc eds j 0 (by rw [HNE.out]; exact hlt)
      have hle : (eds.take j).length ≤ 17592186043904 := by rw [List.length_take]; omega
      generalize eds[j]?.getD 0 = x at *
      generalize eds.take j = R at *
      clear hx hEc x0 x1 x2 x3 x4 x5
      go_wp2_with (at_builtin; (refine wpList_append_own _ rfl _ _ 23 rfl (w.heap.size + 2) 3 i0 (.int .i64 0) 1 8 Tryz.undInts hi hz0 hz1 hz2 rfl (by decide) _ _ _ rfl (hown.alloc _) ⟨wr.heap.size, 0, none⟩ 1 1 [.int .i64 x] rfl rfl ?c1 ?c2 ?c3 ?c4 ?c5 ?_))
      case c1 =>
        intro i u hi
        match i, hi with
        | 0, hi => simp at hi; subst hi; simp [Addr.add]
      case c2 => intro u hu; simp at hu; subst hu; rfl
      case c3 => unfold maxLen; omega
      case c4 => omega
      case c5 => simp; omega
      intro v4 w4 hown4 hgr4 _
      have HO4 : Hid (w4.ownsRow (w.heap.size + 2) 3 1 v4 (eds.take (j + 1)).length (inI (eds.take (j + 1)))) := by
        show w4.ownsRow (w.heap.size + 2) 3 1 v4 (eds.take (j + 1)).length (inI (eds.take (j + 1)))
        rw [HT.out, inI_app, List.length_append]
        exact hown4
      have HB4 : Hid (Below (w.heap.size + 2) W0 w4) := (hb.alloc (by omega) _).trans (below_row (hown.alloc _) hgr4 (by simp; omega))
      clear hown4 hgr4 hown hb
      go_wp2
      go_roundw
      case rel => exact ⟨j + 1, by go_num, by omega, HO4.out, HB4.out⟩
      case measure => simp [intOf]; omega
    · obtain rfl : j = ne := by omega
      rw [List.take_of_length_le (by rw [HNE.out]; exact Nat.le_refl _), HNE.out] at hown ⊢
      have HO : Hid (wr.ownsRow (w.heap.size + 2) 3 1 (.slice a2 j c2) j (inI eds)) := hown
      have HB : Hid (Below (w.heap.size + 2) W0 wr) := hb
      have HSR : Hid (Rd wr ns (.slice qs ns cs) (prI sts)) := (HS.out.below HBW.out).below (by rw [hz]; exact hb)
      have hne01 : w.heap.size ≠ w.heap.size + 1 := by omega
      clear hown hb hEc
      go_wp2
      go_region_held (fun W => W.cell? ⟨w.heap.size, 0, none⟩ = some (.string im) ∧ W.cell? ⟨w.heap.size, 1, none⟩ = some (.int .i64 fu) ∧ W.cell? ⟨w.heap.size, 2, none⟩ = some (.int .i64 de) ∧ W.cell? ⟨w.heap.size, 3, none⟩ = some (.string inp) ∧ W.cell? ⟨w.heap.size, 4, none⟩ = some (.int .i64 kd) ∧ W.cell? ⟨w.heap.size, 5, none⟩ = some (.slice qs ns cs)) (first | go_keep | exact ⟨(put7_cell hne01).trans y0, (put7_cell hne01).trans y1, (put7_cell hne01).trans y2, (put7_cell hne01).trans y3, (put7_cell hne01).trans y4, (put7_cell hne01).trans y5⟩)
        (first | (go_at_call 26; go_loud (refine (sitesI_any _ sts _ (by rw [HNS.out]; exact hb1) (by rw [HNS.out]; exact HSR.out.drew)).mono ?_; rintro e w2 ⟨v5, rfl, h5, hb2⟩; obtain ⟨q5, c5, hv5, -⟩ := owns_shape h5; subst hv5; have hb3 := undrew' hb2; obtain ⟨y0, y1, y2, y3, y4, y5, y6⟩ := z7_of ((hb3.block w.heap.size (by omega)).trans ((HB.out.block w.heap.size (by omega)).trans HK0.out)); have hk1 := (hb3.block (w.heap.size + 1) (by omega)).trans ((HB.out.block (w.heap.size + 1) (by omega)).trans HK1.out); obtain ⟨d0, d1, d2, d3, d4, d5, d6⟩ := z7_of hk1; have df : ∀ o, w2.frozen? ⟨w.heap.size + 1, o, none⟩ = false := fun o => by simp [World.frozen?, hk1])))
      all_goals
        have H5 : Hid (w2.ownsRow (w.heap.size + 2) 76 2 (.slice q5 sts.length c5) sts.length (prI sts)) := rbase h5 (by have := HB.out.size; show w.heap.size + 2 ≤ wr.heap.size; omega)
        have HB2 : Hid (Below (w.heap.size + 2) W0 w2) := HB.out.trans (hb3.mono (by omega))
        have HO2 : Hid (w2.ownsRow (w.heap.size + 2) 3 1 (.slice a2 j c2) j (inI eds)) := World.ownsRow.kept (row := none) HO.out ⟨hb3.os, hb3.tape, hb3.output, hb3.size, fun k hk _ => hb3.block k hk⟩ (by rcases hx : (Value.slice a2 j c2).ownBlock with _ | x; exact Or.inl rfl; exact Or.inr (by simp))
        clear h5 hb2 hb3 y0 y1 y2 y3 y4 y5 y6 hk1
        go_wp2
        refine bodyPost_ret (v := .agg #[.string im, .int .i64 fu, .int .i64 de, .string inp, .int .i64 kd, .slice q5 sts.length c5, .slice a2 j c2]) (by simp [results, Tryz.results7, go_sem, d0, d1, d2, d3, d4, d5, d6]) rfl ?_
        exact ⟨_, _, rfl, rbase (put7_owns H5.out (by omega)) (by omega), by rw [HNE.out]; exact rbase (put7_owns HO2.out (by omega)) (by omega), put7_below (HBW.out.trans (HB2.out.mono (by omega))) (by omega)⟩
end Go.Proofs.YtbmaiioecnmopabGreatDoor

/-
  BUNDLES, THE LAWS: SameInts, SameSites of the same numbers; alike. By the verifier of the loop 'triage'.
-/
namespace Go.Proofs.YtbmaiioecnmopabGreatDoor
open Go.RowKit

set_option maxHeartbeats 1600000 in
theorem sameIntsI_any (a b : Value) (l : List Int) (w : World) (ha : Rd w l.length a (inI l)) (hb : Rd w l.length b (inI l)) :
    Calls Tryz.prog 35 #[a, b] w fun e w' => e = .returned (.bool true) ∧ Below w.heap.size w w' := by
  obtain ⟨a1, cap1, hv1, hn1, hm1, hc1⟩ := ha
  obtain ⟨a2, cap2, hv2, hn2, hm2, hc2⟩ := hb
  subst hv1 hv2
  obtain ⟨len, HLEN⟩ := nm l.length
  rw [HLEN.out] at hc1 hc2 hn1 hn2
  rw [HLEN.out]
  unfold maxLen at hm1 hm2
  go_enter Tryz.func35, Tryz.ntmps35
  go_wp2
  go_loopw [5] (fun i wr => ∃ j : Nat, i = .int .i64 j ∧ j ≤ len ∧ Below w.heap.size w wr) (fun i _ => len - (intOf i).toNat)
  case atStart => exact ⟨0, rfl, by omega, Below.refl _ _⟩
  case round =>
    obtain ⟨j, rfl, hj, hB⟩ := hrel
    by_cases hlt : j < len
    · obtain ⟨g1, o1, rfl, hg1, hx1⟩ := hc1 (by omega)
      obtain ⟨g2, o2, rfl, hg2, hx2⟩ := hc2 (by omega)
      have q0 := inI_get l j (by rw [HLEN.out]; exact hlt)
      have x1 := (hB.cell (p := ⟨g1, o1 + j, none⟩) hg1).trans (hx1 _ _ q0)
      have x2 := (hB.cell (p := ⟨g2, o2 + j, none⟩) hg2).trans (hx2 _ _ q0)
      generalize l[j]?.getD 0 = x at *
      have HB : Hid (Below w.heap.size w wr) := hB
      clear hc1 hc2 hx1 hx2 hB q0
      go_wp2
      go_quiet (fail)
      go_wp2
      go_roundw
      case rel => exact ⟨j + 1, by go_num, by omega, ⟨HB.out.os, HB.out.tape, HB.out.output, HB.out.size, HB.out.block⟩⟩
      case measure => simp [intOf]; omega
    · obtain rfl : j = len := by omega
      have HB : Hid (Below w.heap.size w wr) := hB
      clear hc1 hc2 hB
      go_wp2
      go_ret
      exact ⟨rfl, HB.out⟩

set_option maxHeartbeats 3200000 in
set_option maxRecDepth 100000 in
theorem sameSitesI_any (a b : Value) (l : List (Int × Int)) (w : World) (ha : Rd w l.length a (prI l)) (hb : Rd w l.length b (prI l)) :
    Calls Tryz.prog 40 #[a, b] w fun e w' => e = .returned (.bool true) ∧ Below w.heap.size w w' := by
  obtain ⟨a1, cap1, hv1, hn1, hm1, hc1⟩ := ha
  obtain ⟨a2, cap2, hv2, hn2, hm2, hc2⟩ := hb
  subst hv1 hv2
  obtain ⟨len, HLEN⟩ := nm l.length
  rw [HLEN.out] at hc1 hc2 hn1 hn2
  rw [HLEN.out]
  unfold maxLen at hm1 hm2
  go_enter Tryz.func40, Tryz.ntmps40
  go_wp2
  go_loopw [5] (fun i wr => ∃ j : Nat, i = .int .i64 j ∧ j ≤ len ∧ Below w.heap.size w wr) (fun i _ => len - (intOf i).toNat)
  case atStart => exact ⟨0, rfl, by omega, Below.refl _ _⟩
  case round =>
    obtain ⟨j, rfl, hj, hB⟩ := hrel
    by_cases hlt : j < len
    · obtain ⟨g1, o1, rfl, hg1, hx1⟩ := hc1 (by omega)
      obtain ⟨g2, o2, rfl, hg2, hx2⟩ := hc2 (by omega)
      obtain ⟨q0, q1⟩ := prI_get l j (by rw [HLEN.out]; exact hlt)
      have x1 := (hB.cell (p := ⟨g1, o1 + j * 2, none⟩) hg1).trans (hx1 _ _ q0)
      have x2 := (hB.cell (p := ⟨g2, o2 + j * 2, none⟩) hg2).trans (hx2 _ _ q0)
      have y1 := (hB.cell (p := ⟨g1, o1 + (j * 2 + 1), none⟩) hg1).trans (hx1 _ _ q1)
      have y2 := (hB.cell (p := ⟨g2, o2 + (j * 2 + 1), none⟩) hg2).trans (hx2 _ _ q1)
      rw [← Nat.add_assoc] at y1 y2
      generalize l[j]?.getD (0, 0) = x at *
      have HB : Hid (Below w.heap.size w wr) := hB
      clear hc1 hc2 hx1 hx2 hB q0 q1
      go_wp2
      go_quiet (fail)
      go_wp2
      go_roundw
      case rel => exact ⟨j + 1, by go_num, by omega, ⟨HB.out.os, HB.out.tape, HB.out.output, HB.out.size, HB.out.block⟩⟩
      case measure => simp [intOf]; omega
    · obtain rfl : j = len := by omega
      have HB : Hid (Below w.heap.size w wr) := hB
      clear hc1 hc2 hB
      go_wp2
      go_ret
      exact ⟨rfl, HB.out⟩

end Go.Proofs.YtbmaiioecnmopabGreatDoor

/-
  BUNDLES: which may be packed. By the verifier of the loop 'triage'.
-/
namespace Go.Proofs.YtbmaiioecnmopabGreatDoor
open Go.RowKit

/-- may a bundle be packed? -/
abbrev ArgOk (im inp : ByteArray) (fu de kd : Int) (ns : Nat) : Prop := (Im.chk im).1 = 0 ∧ 0 ≤ fu ∧ fu ≤ 2000 ∧ 0 ≤ de ∧ de ≤ 6 ∧ inp.size ≤ 24 ∧ 1 ≤ kd ∧ kd ≤ 6 ∧ (ns : Int) ≤ de
def okB (im inp : ByteArray) (fu de kd : Int) (sts : List (Int × Int)) (eds : List Int) : Bool := decide (ArgOk im inp fu de kd sts.length) && (stsOk sts && edsOk (-1) eds)
theorem okB_bad {im inp : ByteArray} {fu de kd : Int} {sts : List (Int × Int)} {eds : List Int} (h : ¬ ArgOk im inp fu de kd sts.length) : okB im inp fu de kd sts eds = false := by unfold okB; rw [decide_eq_false h]; rfl
theorem okB_arg {im inp : ByteArray} {fu de kd : Int} {sts : List (Int × Int)} {eds : List Int} (h : ArgOk im inp fu de kd sts.length) : okB im inp fu de kd sts eds = (stsOk sts && edsOk (-1) eds) := by unfold okB; rw [decide_eq_true h]; rfl
end Go.Proofs.YtbmaiioecnmopabGreatDoor

/-
  BUNDLES, THE PROGRAM's SIDE (package triage): fits. By the verifier of the loop 'triage'.
-/
namespace Go.Proofs.YtbmaiioecnmopabGreatDoor
open Go.RowKit

theorem arg_ask {im inp : ByteArray} {fu de kd : Int} {ns : Nat} (h : ArgOk im inp fu de kd ns) : (askP im fu de [inp]).1 = 0 := by
  obtain ⟨h0, h1, h2, h3, h4, h5, h6, h7, h8⟩ := h
  rw [askP_ok h0 (by unfold badN; simp; omega) (by unfold lng; rw [if_neg (by omega)]; rfl)]

set_option maxHeartbeats 3200000 in
set_option maxRecDepth 100000 in
theorem fits_any (im inp : ByteArray) (fu de kd : Int) (sv ev : Value) (sts : List (Int × Int)) (eds : List Int) (w : World) (hG : Glob w) (hm : inp.size ≤ maxLen) (hS : Rd w sts.length sv (prI sts)) (hE : Rd w eds.length ev (inI eds)) :
    Calls Tryz.prog 24 #[bunV im inp fu de kd sv ev] w fun e w' => e = .returned (.bool (okB im inp fu de kd sts eds)) ∧ Below w.heap.size w w' := by
  have HG : Hid (Glob w) := hG
  have HS : Hid (Rd w sts.length sv (prI sts)) := hS
  have HE : Hid (Rd w eds.length ev (inI eds)) := hE
  obtain ⟨qs, cs, hvs, hns, hms, -⟩ := hS
  obtain ⟨qe, ce, hve, hne, hme, -⟩ := hE
  subst hvs hve
  unfold bunV
  unfold maxLen at hms
  have HA : Hid (ArgOk im inp fu de kd sts.length → okB im inp fu de kd sts eds = (stsOk sts && edsOk (-1) eds)) := okB_arg
  have HN : Hid (¬ ArgOk im inp fu de kd sts.length → okB im inp fu de kd sts eds = false) := okB_bad
  obtain ⟨q, HQ⟩ := nm (okB im inp fu de kd sts eds)
  rw [HQ.out] at HA HN
  rw [HQ.out]
  obtain ⟨ns, HNS⟩ := nm sts.length
  obtain ⟨ne, HNE⟩ := nm eds.length
  rw [HNS.out] at hns HA HN HS
  rw [HNE.out] at hne HE
  rw [HNS.out, HNE.out]
  have HI : Hid (Ins [inp] (.slice (some ⟨w.heap.size + 1, 0, none⟩) 1 1) ((w.alloc (.cells #[.string im, .int .i64 fu, .int .i64 de, .string inp, .int .i64 kd, .slice qs ns cs, .slice qe ne ce] 25)).alloc (.cells #[.string inp] 9))) := by
    have := ins_one inp (w.alloc (.cells #[.string im, .int .i64 fu, .int .i64 de, .string inp, .int .i64 kd, .slice qs ns cs, .slice qe ne ce] 25)) 9 hm
    rw [World.size_alloc] at this
    exact this
  have HGA : Hid (∀ o p, Glob ((w.alloc o).alloc p)) := fun o p => (HG.out.below ((Below.refl _ _).alloc (Nat.le_refl _) _)).below ((Below.refl _ _).alloc (Nat.le_refl _) _)
  clear hG hme
  go_enter Tryz.func24, Tryz.ntmps24
  go_wp2_with fail
  refine (setUp_any im fu de [inp] _ _ (HGA.out _ _) HI.out).mono ?_
  rintro e w1 ⟨hb1, hp1⟩
  have hk := (hb1.block w.heap.size (by simp; omega)).trans ((Below.heap_alloc _ _ _ (by simp)).trans (hp_new _ _))
  have HK : Hid (w1.heap[w.heap.size]? = some (.cells #[.string im, .int .i64 fu, .int .i64 de, .string inp, .int .i64 kd, .slice qs ns cs, .slice qe ne ce] 25)) := hk
  have HB : Hid (Below w.heap.size w w1) := (((Below.refl _ _).alloc (Nat.le_refl _) _).alloc (by simp) _).trans (hb1.mono (by simp; omega))
  have hs1 : w.heap.size < w1.heap.size := by have := hb1.size; simp at this; omega
  obtain ⟨x0, x1, x2, x3, x4, x5, x6⟩ := z7_of hk
  clear hk hb1
  rcases hp1 with ⟨hnz, rfl⟩ | ⟨hok, bp, bs, bc, cs', rfl, -, -, -⟩
  · have HF : Hid (q = false) := HN.out (fun h => hnz (arg_ask h))
    have hb : ((askP im fu de [inp]).1 == 0) = false := by simpa using hnz
    generalize (askP im fu de [inp]).1 = c at *
    generalize (askP im fu de [inp]).2 = p at *
    go_wp2
    go_ret
    exact ⟨by rw [HF.out]; rfl, HB.out.alloc HB.out.size _⟩
  · have HOK : Hid (AskOk im fu de [inp]) := hok
    clear hok
    by_cases h6 : kd < 1
    · have HF : Hid (q = false) := HN.out (by intro ⟨_, _, _, _, _, _, _, _, _⟩; omega)
      go_wp2
      go_ret
      exact ⟨by rw [HF.out]; rfl, HB.out.alloc HB.out.size _⟩
    by_cases h7 : 6 < kd
    · have HF : Hid (q = false) := HN.out (by intro ⟨_, _, _, _, _, _, _, _, _⟩; omega)
      go_wp2
      go_ret
      exact ⟨by rw [HF.out]; rfl, HB.out.alloc HB.out.size _⟩
    by_cases h8 : de < (ns : Int)
    · have HF : Hid (q = false) := HN.out (by intro ⟨_, _, _, _, _, _, _, _, _⟩; omega)
      go_wp2
      go_ret
      exact ⟨by rw [HF.out]; rfl, HB.out.alloc HB.out.size _⟩
    have HAQ : Hid (q = (stsOk sts && edsOk (-1) eds)) := HA.out ⟨by rw [HOK.out.chk], HOK.out.fu.1, HOK.out.fu.2, HOK.out.de.1, HOK.out.de.2, HOK.out.sz inp (by simp), by omega, by omega, by omega⟩
    go_wp2_with fail
    refine (sitesFit_any _ sts _ (by rw [HNS.out]; exact (HS.out.below HB.out).alloc _)).mono ?_
    rintro e w2 ⟨rfl, hb2⟩
    have HB2 : Hid (Below w.heap.size w w2) := (HB.out.alloc HB.out.size _).trans (hb2.mono (by simp; omega))
    have hk := (hb2.block w.heap.size (by simp; omega)).trans ((Below.heap_alloc _ _ _ hs1).trans HK.out)
    clear x0 x1 x2 x3 x4 x5 x6
    obtain ⟨x0, x1, x2, x3, x4, x5, x6⟩ := z7_of hk
    clear hb2 hk
    cases hst : stsOk sts with
    | false =>
      have HF : Hid (q = false) := by show q = false; rw [HAQ.out, hst]; rfl
      go_wp2
      go_ret
      exact ⟨by rw [HF.out]; rfl, HB2.out⟩
    | true =>
      have HF : Hid (q = edsOk (-1) eds) := by show q = edsOk (-1) eds; rw [HAQ.out, hst]; rfl
      go_wp2_with fail
      refine (edgesFit_any _ eds _ (by rw [HNE.out]; exact HE.out.below HB2.out)).mono ?_
      rintro e w3 ⟨rfl, hb3⟩
      have HB3 : Hid (Below w.heap.size w w3) := HB2.out.trans (hb3.mono HB2.out.size)
      rw [← HF.out]
      clear hb3 HF HAQ x0 x1 x2 x3 x4 x5 x6
      cases q with
      | false =>
        go_wp2
        go_ret
        exact ⟨rfl, HB3.out⟩
      | true =>
        go_wp2
        go_ret
        exact ⟨rfl, HB3.out⟩
end Go.Proofs.YtbmaiioecnmopabGreatDoor

/-
  BUNDLES: one that may be packed, by its numbers. By the verifier of the loop 'triage'.
-/
namespace Go.Proofs.YtbmaiioecnmopabGreatDoor
open Go.RowKit

def dnP (l : List (Int × Int)) : List (Nat × Nat) := l.map fun p => (p.1.toNat, p.2.toNat)
def dnI (l : List Int) : List Nat := l.map Int.toNat
def bnOf (im inp : ByteArray) (fu de kd : Int) (sts : List (Int × Int)) (eds : List Int) : Bu.Bn := ⟨fu.toNat, de.toNat, kd.toNat, lst im, lst inp, dnP sts, dnI eds⟩
theorem up_dnP (l : List (Int × Int)) (h : stsOk l = true) : upP (dnP l) = l := by
  unfold upP dnP
  rw [List.map_map]
  conv => rhs; rw [← List.map_id l]
  apply List.map_congr_left
  intro p hp
  have := List.all_eq_true.1 h p hp
  unfold stOk at this
  simp only [decide_eq_true_eq] at this
  obtain ⟨a, b⟩ := p
  simp only [Function.comp, id] at *
  rw [show ((a.toNat : Nat) : Int) = a from by omega, show ((b.toNat : Nat) : Int) = b from by omega]
theorem edsOk_mem (l : List Int) : ∀ last, -1 ≤ last → edsOk last l = true → ∀ x ∈ l, 0 ≤ x ∧ x < 400 := by
  induction l with
  | nil => intro _ _ _ x hx; cases hx
  | cons e l ih =>
    intro last hl h x hx
    unfold edsOk at h
    simp only [Bool.and_eq_true, decide_eq_true_eq] at h
    rcases List.mem_cons.1 hx with rfl | hx
    · omega
    · exact ih e (by omega) h.2 x hx
theorem edsOk_len (l : List Int) : ∀ last, -1 ≤ last → last < 400 → edsOk last l = true → (l.length : Int) ≤ 399 - last := by
  induction l with
  | nil => intro last _ _ _; simp; omega
  | cons e l ih =>
    intro last hl hl2 h
    unfold edsOk at h
    simp only [Bool.and_eq_true, decide_eq_true_eq] at h
    have := ih e (by omega) h.1.2 h.2
    simp
    omega
theorem up_dnI (l : List Int) (h : edsOk (-1) l = true) : upI (dnI l) = l := by
  unfold upI dnI
  rw [List.map_map]
  conv => rhs; rw [← List.map_id l]
  apply List.map_congr_left
  intro x hx
  have := edsOk_mem l (-1) (by omega) h x hx
  simp only [Function.comp, id]
  omega
theorem okB_parts {im inp : ByteArray} {fu de kd : Int} {sts : List (Int × Int)} {eds : List Int} (h : okB im inp fu de kd sts eds = true) : ArgOk im inp fu de kd sts.length ∧ stsOk sts = true ∧ edsOk (-1) eds = true := by
  unfold okB at h
  simp only [Bool.and_eq_true, decide_eq_true_eq] at h
  exact ⟨h.1, h.2.1, h.2.2⟩
theorem chk_sz {s : ByteArray} (h : (Im.chk s).1 = 0) : s.size ≤ 200 := by
  by_cases hs : 200 < s.size
  · unfold Im.chk at h
    rw [if_pos hs] at h
    exact absurd h (by decide)
  · omega
theorem small_of {im inp : ByteArray} {fu de kd : Int} {sts : List (Int × Int)} {eds : List Int} (h : okB im inp fu de kd sts eds = true) : Bu.Small (bnOf im inp fu de kd sts eds) := by
  obtain ⟨⟨h0, h1, h2, h3, h4, h5, h6, h7, h8⟩, h9, h10⟩ := okB_parts h
  have hl := edsOk_len eds (-1) (by omega) (by omega) h10
  have hs := chk_sz h0
  refine ⟨?_, ?_, ?_, ?_, ?_, ?_, ?_, ?_, ?_⟩
  · show fu.toNat < 65536; omega
  · show de.toNat < 65536; omega
  · show kd.toNat < 65536; omega
  · show (lst im).length < 65536; rw [lst_len]; omega
  · show (lst inp).length < 65536; rw [lst_len]; omega
  · show (dnP sts).length < 65536; unfold dnP; rw [List.length_map]; omega
  · intro x hx
    obtain ⟨p, hp, rfl⟩ := List.mem_map.1 hx
    have := List.all_eq_true.1 h9 p hp
    unfold stOk at this
    simp only [decide_eq_true_eq] at this
    constructor <;> simp only <;> omega
  · show (dnI eds).length < 65536; unfold dnI; rw [List.length_map]; omega
  · intro x hx
    obtain ⟨p, hp, rfl⟩ := List.mem_map.1 hx
    have := edsOk_mem eds (-1) (by omega) h10 p hp
    omega
/-- what Pack answers. -/
def PackP (im inp : ByteArray) (fu de kd : Int) (sts : List (Int × Int)) (eds : List Int) (w w' : World) (e : Ending) : Prop :=
  Below w.heap.size w w' ∧ ((okB im inp fu de kd sts eds = false ∧ e = .returned (.tuple #[.string ⟨#[]⟩, .int .i64 8])) ∨
    (okB im inp fu de kd sts eds = true ∧ e = .returned (.tuple #[.string (ofL (Bu.text (bnOf im inp fu de kd sts eds))), .int .i64 0])))

set_option maxHeartbeats 3200000 in
set_option maxRecDepth 100000 in
theorem pack_any (im inp : ByteArray) (fu de kd : Int) (sv ev : Value) (sts : List (Int × Int)) (eds : List Int) (w : World) (hG : Glob w) (hm : inp.size ≤ maxLen) (hS : Rd w sts.length sv (prI sts)) (hE : Rd w eds.length ev (inI eds)) :
    Calls Tryz.prog 6 #[bunV im inp fu de kd sv ev] w fun e w' => PackP im inp fu de kd sts eds w w' e := by
  have HG : Hid (Glob w) := hG
  have HS : Hid (Rd w sts.length sv (prI sts)) := hS
  have HE : Hid (Rd w eds.length ev (inI eds)) := hE
  obtain ⟨qs, cs, hvs, -, -, -⟩ := hS
  obtain ⟨qe, ce, hve, -, -, -⟩ := hE
  subst hvs hve
  have HBV : Hid (∀ a b, bunV im inp fu de kd a b = .agg #[.string im, .int .i64 fu, .int .i64 de, .string inp, .int .i64 kd, a, b]) := fun _ _ => rfl
  rw [HBV.out]
  obtain ⟨ns, HNS⟩ := nm sts.length
  obtain ⟨ne, HNE⟩ := nm eds.length
  rw [HNS.out] at HS
  rw [HNE.out] at HE
  rw [HNS.out, HNE.out]
  clear hG
  go_enter Tryz.func6, Tryz.ntmps6
  go_wp2_with fail
  rw [← HBV.out]
  refine (fits_any im inp fu de kd _ _ sts eds _ (HG.out.below ((Below.refl _ _).alloc (Nat.le_refl _) _)) hm (by rw [HNS.out]; exact HS.out.alloc _) (by rw [HNE.out]; exact HE.out.alloc _)).mono ?_
  rintro e w1 ⟨rfl, hb1⟩
  have hk := (hb1.block w.heap.size (by simp)).trans (hp_new _ _)
  have HB : Hid (Below w.heap.size w w1) := ((Below.refl _ _).alloc (Nat.le_refl _) _).trans (hb1.mono (by simp))
  rw [HBV.out]
  obtain ⟨x0, x1, x2, x3, x4, x5, x6⟩ := z7_of hk
  clear hk hb1
  cases hok : okB im inp fu de kd sts eds with
  | false =>
    have HP : Hid (PackP im inp fu de kd sts eds w w1 (.returned (.tuple #[.string ⟨#[]⟩, .int .i64 8]))) := ⟨HB.out, Or.inl ⟨hok, rfl⟩⟩
    go_wp2
    go_ret2
    exact HP.out
  | true =>
    obtain ⟨⟨h0, h1, h2, h3, h4, h5, h6, h7, h8⟩, h9, h10⟩ := okB_parts hok
    have HP : Hid (∀ w2, Below w.heap.size w w2 → PackP im inp fu de kd sts eds w w2 (.returned (.tuple #[.string (ofL (Bu.text (bnOf im inp fu de kd sts eds))), .int .i64 0]))) := fun w2 h => ⟨h, Or.inr ⟨hok, rfl⟩⟩
    have HT : Hid (Bu.text (bnOf im inp fu de kd sts eds) = Bu.text ⟨fu.toNat, de.toNat, kd.toNat, lst im, lst inp, dnP sts, dnI eds⟩) := rfl
    have hl := edsOk_len eds (-1) (by omega) (by omega) h10
    have hs := chk_sz h0
    have e1 : ((fu.toNat : Nat) : Int) = fu := by omega
    have e2 : ((de.toNat : Nat) : Int) = de := by omega
    have e3 : ((kd.toNat : Nat) : Int) = kd := by omega
    have hds : (dnP sts).length = ns := by unfold dnP; rw [List.length_map, HNS.out]
    have hde : (dnI eds).length = ne := by unfold dnI; rw [List.length_map, HNE.out]
    have HW : Hid (∀ W a b, Rd W ns a (prI sts) → Rd W ne b (inI eds) → Calls Tryz.prog 25 #[bunV im inp fu de kd a b] W fun e w' => e = .returned (.string (ofL (Bu.text (bnOf im inp fu de kd sts eds)))) ∧ Below W.heap.size W w') := by
      intro W a b ha hb
      have := write_any im inp fu.toNat de.toNat kd.toNat a b (dnP sts) (dnI eds) W (by rw [hds, hde]; have := HNS.out; have := HNE.out; omega) (by rw [prI_prs, up_dnP sts h9, hds]; exact ha) (by rw [inI_ints, up_dnI eds h10, hde]; exact hb)
      rw [e1, e2, e3] at this
      exact this
    clear h0 h1 h2 h3 h4 h5 h6 h7 h8 h9 h10 e1 e2 e3 hl hs hds hde
    generalize Bu.text (bnOf im inp fu de kd sts eds) = T at *
    go_wp2_with fail
    rw [← HBV.out]
    refine (HW.out _ _ _ (HS.out.below HB.out) (HE.out.below HB.out)).mono ?_
    rintro e w2 ⟨rfl, hb2⟩
    have HB2 : Hid (Below w.heap.size w w2) := HB.out.trans (hb2.mono HB.out.size)
    rw [HBV.out]
    clear hb2 x0 x1 x2 x3 x4 x5 x6
    go_wp2
    go_ret2
    exact HP.out _ HB2.out
end Go.Proofs.YtbmaiioecnmopabGreatDoor
