/-
  BuR, BuM, BuS, BuW, BuV, BuT: THESE TEXTS, JOINED. By the verifier of the loop 'triage'.
-/
import Derived.Test.YtbmaiioecnmopabGreatDoorJ38
import Derived.BigQuiet
import Derived.Test.YtbmaiioecnmopabGreatDoorJ05
import Derived.Deep.RegionHeld3
/-
  BUNDLES, THE PROGRAM's SIDE (package triage): Unpack. By the verifier of the loop 'triage'.
-/
namespace Go.Proofs.YtbmaiioecnmopabGreatDoor
open Go.RowKit

/-- may what was read be packed? -/
def okN (P : Bu.Bn) : Bool := okB (ofL P.im) (ofL P.inp) (P.fu : Int) (P.de : Int) (P.kd : Int) (upP P.sts) (upI P.eds)
def zeroV : Value := .agg #[.string ⟨#[]⟩, .int .i64 0, .int .i64 0, .string ⟨#[]⟩, .int .i64 0, .slice none 0 0, .slice none 0 0]
/-- what Unpack answers. -/
def UnpackP (s : ByteArray) (w w' : World) (e : Ending) : Prop :=
  Below w.heap.size w w' ∧
  (((okN (Bu.parse (lst s)) = true ∧ Bu.text (Bu.parse (lst s)) = lst s) ∧ ∃ sv ev, e = .returned (.tuple #[bunV (ofL (Bu.parse (lst s)).im) (ofL (Bu.parse (lst s)).inp) ((Bu.parse (lst s)).fu : Nat) ((Bu.parse (lst s)).de : Nat) ((Bu.parse (lst s)).kd : Nat) sv ev, .int .i64 0]) ∧
      w'.ownsRow w.heap.size 54 2 sv (Bu.parse (lst s)).sts.length (prs (Bu.parse (lst s)).sts) ∧ w'.ownsRow w.heap.size 3 1 ev (Bu.parse (lst s)).eds.length (ints (Bu.parse (lst s)).eds)) ∨
   (¬ (okN (Bu.parse (lst s)) = true ∧ Bu.text (Bu.parse (lst s)) = lst s) ∧ e = .returned (.tuple #[zeroV, .int .i64 8])))
theorem dn_upP (l : List (Nat × Nat)) : dnP (upP l) = l := by
  unfold dnP upP
  rw [List.map_map]
  conv => rhs; rw [← List.map_id l]
  apply List.map_congr_left
  intro p _
  simp
theorem dn_upI (l : List Nat) : dnI (upI l) = l := by
  unfold dnI upI
  rw [List.map_map]
  conv => rhs; rw [← List.map_id l]
  apply List.map_congr_left
  intro p _
  simp
theorem bnOf_self (P : Bu.Bn) (h1 : Bu.Byt P.im) (h2 : Bu.Byt P.inp) : bnOf (ofL P.im) (ofL P.inp) (P.fu : Int) (P.de : Int) (P.kd : Int) (upP P.sts) (upI P.eds) = P := by
  unfold bnOf
  rw [lst_ofL h1, lst_ofL h2, dn_upP, dn_upI]
  simp
theorem upP_len (l : List (Nat × Nat)) : (upP l).length = l.length := by unfold upP; rw [List.length_map]
theorem upI_len (l : List Nat) : (upI l).length = l.length := by unfold upI; rw [List.length_map]
theorem ofL_eq {T : List Nat} (hT : Bu.Byt T) (s : ByteArray) : ofL T = s ↔ T = lst s := by
  constructor
  · intro h; rw [← h, lst_ofL hT]
  · intro h; rw [h, ofL_lst]

theorem str_ne {a b : ByteArray} (h : a ≠ b) : (a.toList == b.toList) = false := by
  rw [beq_eq_false_iff_ne]
  intro e
  rw [ByteArray.toList_eq, ByteArray.toList_eq] at e
  apply h
  cases a
  cases b
  simp only at e
  rw [Array.toList_inj.1 e]
theorem rnum_sub (l : List Nat) : (Bu.rnum l).2.length ≤ l.length := by unfold Bu.rnum; simp
theorem rtxt_sub (l : List Nat) : (Bu.rtxt l).1.length ≤ l.length ∧ (Bu.rtxt l).2.length ≤ l.length := by
  have := rnum_sub l
  unfold Bu.rtxt
  simp only [List.length_take, List.length_drop]
  omega
theorem parse_inp (l : List Nat) : (Bu.parse l).inp.length ≤ l.length := by
  unfold Bu.parse
  dsimp only
  have h1 := rnum_sub l
  have h2 := rnum_sub (Bu.rnum l).2
  have h3 := rnum_sub (Bu.rnum (Bu.rnum l).2).2
  have h4 := rtxt_sub (Bu.rnum (Bu.rnum (Bu.rnum l).2).2).2
  have h5 := rtxt_sub (Bu.rtxt (Bu.rnum (Bu.rnum (Bu.rnum l).2).2).2).2
  omega

set_option maxHeartbeats 3200000 in
set_option maxRecDepth 100000 in
theorem unpack_any (s : ByteArray) (w : World) (hG : Glob w) (hm : s.size ≤ maxLen) :
    Calls Tryz.prog 12 #[.string s] w fun e w' => UnpackP s w w' e := by
  have HG : Hid (Glob w) := hG
  clear hG
  go_enter Tryz.func12, Tryz.ntmps12
  go_wp2_with fail
  refine (parse_any s _ hm).mono ?_
  rintro e w1 ⟨im, inp, sv, ev, rfl, him, hinp, hsv, hev, hb1⟩
  have HBV : Hid (∀ (a b : ByteArray) (x y z : Int) (p q : Value), bunV a b x y z p q = .agg #[.string a, .int .i64 x, .int .i64 y, .string b, .int .i64 z, p, q]) := fun _ _ _ _ _ _ _ => rfl
  rw [HBV.out]
  obtain ⟨P, HP⟩ := nm (Bu.parse (lst s))
  rw [HP.out] at him hinp hsv hev
  rw [HP.out]
  have HIM : Hid (im = ofL P.im) := by show im = ofL P.im; rw [← him, ofL_lst]
  have HIN : Hid (inp = ofL P.inp) := by show inp = ofL P.inp; rw [← hinp, ofL_lst]
  have HY1 : Hid (Bu.Byt P.im) := by show Bu.Byt P.im; rw [← him]; exact byt_lst im
  have HY2 : Hid (Bu.Byt P.inp) := by show Bu.Byt P.inp; rw [← hinp]; exact byt_lst inp
  have hmi : inp.size ≤ maxLen := by
    have := parse_inp (lst s)
    rw [HP.out, ← hinp, lst_len, lst_len] at this
    omega
  obtain ⟨q1, c1, hv1, -⟩ := owns_shape hsv
  obtain ⟨q2, c2, hv2, -⟩ := owns_shape hev
  subst hv1 hv2
  have hk := (hb1.block w.heap.size (by simp)).trans (hp_new _ _)
  have HK : Hid (w1.heap[w.heap.size]? = some (.cells #[.string ⟨#[]⟩, .int .i64 0, .int .i64 0, .string ⟨#[]⟩, .int .i64 0, .slice none 0 0, .slice none 0 0] 25)) := hk
  have HB1 : Hid (Below w.heap.size w w1) := ((Below.refl _ _).alloc (Nat.le_refl _) _).trans (hb1.mono (by simp))
  have hs1 : w.heap.size < w1.heap.size := by have := hb1.size; simp at this; omega
  have HSV : Hid (w1.ownsRow (w.heap.size + 1) 54 2 (.slice q1 P.sts.length c1) P.sts.length (prs P.sts)) := rbase hsv (by simp)
  have HEV : Hid (w1.ownsRow (w.heap.size + 1) 3 1 (.slice q2 P.eds.length c2) P.eds.length (ints P.eds)) := rbase hev (by simp)
  clear him hinp hsv hev hb1 hk
  go_wp2_with fail
  rw [← HBV.out]
  refine (pack_any im inp _ _ _ _ _ (upP P.sts) (upI P.eds) _ ((HG.out.below HB1.out).below ((Below.refl _ _).alloc (Nat.le_refl _) _)) hmi (by rw [upP_len, ← prI_prs]; exact (rd_owns HSV.out).alloc _) (by rw [upI_len, ← inI_ints]; exact (rd_owns HEV.out).alloc _)).mono ?_
  rintro e w2 ⟨hb2, hp2⟩
  rw [HIM.out, HIN.out, bnOf_self P HY1.out HY2.out] at hp2
  have HOK : Hid (okN P = okB (ofL P.im) (ofL P.inp) (P.fu : Int) (P.de : Int) (P.kd : Int) (upP P.sts) (upI P.eds)) := rfl
  rw [← HOK.out] at hp2
  rw [HBV.out]
  have hb3 : Below w1.heap.size w1 w2 := ((Below.refl _ _).alloc (Nat.le_refl _) _).trans (hb2.mono (by simp))
  have HB2 : Hid (Below w.heap.size w w2) := HB1.out.trans (hb3.mono HB1.out.size)
  have hk := (hb3.block w.heap.size hs1).trans HK.out
  obtain ⟨d0, d1, d2, d3, d4, d5, d6⟩ := z7_of hk
  have df : ∀ o, w2.frozen? ⟨w.heap.size, o, none⟩ = false := fun o => by simp [World.frozen?, hk]
  have hk1 := (hb2.block w1.heap.size (by simp)).trans (hp_new _ _)
  obtain ⟨x0, x1, x2, x3, x4, x5, x6⟩ := z7_of hk1
  have HS2 : Hid (w2.ownsRow (w.heap.size + 1) 54 2 (.slice q1 P.sts.length c1) P.sts.length (prs P.sts)) := World.ownsRow.kept (row := none) HSV.out ⟨hb3.os, hb3.tape, hb3.output, hb3.size, fun k hk _ => hb3.block k hk⟩ (by rcases hx : (Value.slice q1 P.sts.length c1).ownBlock with _ | x; exact Or.inl rfl; exact Or.inr (by simp))
  have HE2 : Hid (w2.ownsRow (w.heap.size + 1) 3 1 (.slice q2 P.eds.length c2) P.eds.length (ints P.eds)) := World.ownsRow.kept (row := none) HEV.out ⟨hb3.os, hb3.tape, hb3.output, hb3.size, fun k hk _ => hb3.block k hk⟩ (by rcases hx : (Value.slice q2 P.eds.length c2).ownBlock with _ | x; exact Or.inl rfl; exact Or.inr (by simp))
  have HBT : Hid (Bu.Byt (Bu.text P)) := Bu.byt_text P HY1.out HY2.out
  have hz2 : w.heap.size ≠ w1.heap.size := by omega
  have HBAD : Hid (¬ (okN P = true ∧ Bu.text P = lst s) → UnpackP s w (put7 w2 w.heap.size (.string ⟨#[]⟩) (.int .i64 0) (.int .i64 0) (.string ⟨#[]⟩) (.int .i64 0) (.slice none 0 0) (.slice none 0 0)) (.returned (.tuple #[zeroV, .int .i64 8]))) := by
    intro h
    refine ⟨put7_below HB2.out (Nat.le_refl _), Or.inr ⟨?_, rfl⟩⟩
    rw [HP.out]
    exact h
  have HGOOD : Hid (okN P = true → Bu.text P = lst s → UnpackP s w (put7 w2 w.heap.size (.string im) (.int .i64 (P.fu : Nat)) (.int .i64 (P.de : Nat)) (.string inp) (.int .i64 (P.kd : Nat)) (.slice q1 P.sts.length c1) (.slice q2 P.eds.length c2)) (.returned (.tuple #[.agg #[.string im, .int .i64 (P.fu : Nat), .int .i64 (P.de : Nat), .string inp, .int .i64 (P.kd : Nat), .slice q1 P.sts.length c1, .slice q2 P.eds.length c2], .int .i64 0]))) := by
    intro h1 h2
    refine ⟨put7_below HB2.out (Nat.le_refl _), Or.inl ?_⟩
    rw [HP.out]
    refine ⟨⟨h1, h2⟩, .slice q1 P.sts.length c1, .slice q2 P.eds.length c2, ?_, rbase (put7_owns HS2.out (Nat.lt_succ_self _)) (Nat.le_succ _), rbase (put7_owns HE2.out (Nat.lt_succ_self _)) (Nat.le_succ _)⟩
    rw [← HIM.out, ← HIN.out]
    rfl
  clear hb2 hb3 hk hk1
  rcases hp2 with ⟨hok, rfl⟩ | ⟨hok, rfl⟩
  · have HF := HBAD.out (by rw [hok]; simp)
    clear x0 x1 x2 x3 x4 x5 x6
    go_wp2
    exact bodyPost_ret (v := .tuple #[zeroV, .int .i64 8]) (by simp [results, Tryz.results12, go_sem, d0, d1, d2, d3, d4, d5, d6, zeroV]) rfl HF
  · by_cases heq : Bu.text P = lst s
    · have HF := HGOOD.out hok heq
      have HTS : Hid (ofL (Bu.text P) = s) := (ofL_eq HBT.out s).2 heq
      rw [HTS.out]
      clear heq
      go_wp2
      exact bodyPost_ret (v := .tuple #[.agg #[.string im, .int .i64 (P.fu : Nat), .int .i64 (P.de : Nat), .string inp, .int .i64 (P.kd : Nat), .slice q1 P.sts.length c1, .slice q2 P.eds.length c2], .int .i64 0]) (by simp [results, Tryz.results12, go_sem, d0, d1, d2, d3, d4, d5, d6]) rfl HF
    · have HF := HBAD.out (fun h => heq h.2)
      have hts : ofL (Bu.text P) ≠ s := fun h => heq ((ofL_eq HBT.out s).1 h)
      have hb := str_ne hts
      generalize ofL (Bu.text P) = T at *
      clear x0 x1 x2 x3 x4 x5 x6 heq
      go_wp2
      exact bodyPost_ret (v := .tuple #[zeroV, .int .i64 8]) (by simp [results, Tryz.results12, go_sem, d0, d1, d2, d3, d4, d5, d6, zeroV]) rfl HF
end Go.Proofs.YtbmaiioecnmopabGreatDoor

/-
  BUNDLES, THE DOCUMENT's SIDE (package triageref): Good, of a bundle that may be packed. By the verifier of the loop 'triage'.
-/
namespace Go.Proofs.YtbmaiioecnmopabGreatDoor
open Go.RowKit

theorem okB_each {im inp : ByteArray} {fu de kd : Int} {sts : List (Int × Int)} {eds : List Int} (h : okB im inp fu de kd sts eds = true) : ArgOk im inp fu de kd sts.length ∧ stsOk sts = true ∧ edsOk (-1) eds = true := by
  unfold okB at h
  simp only [Bool.and_eq_true, decide_eq_true_eq] at h
  exact ⟨h.1, h.2.1, h.2.2⟩
/-- each edge is within its bounds, and beyond the one ahead of it. -/
theorem edsOk_at (l : List Int) : ∀ last, -1 ≤ last → edsOk last l = true → ∀ k, k < l.length → 0 ≤ l[k]?.getD 0 ∧ l[k]?.getD 0 ≤ 399 ∧ (0 < k → l[k - 1]?.getD 0 < l[k]?.getD 0) := by
  induction l with
  | nil => intro _ _ _ k hk; simp at hk
  | cons e l ih =>
    intro last hl h k hk
    unfold edsOk at h
    simp only [Bool.and_eq_true, decide_eq_true_eq] at h
    cases k with
    | zero => simp; omega
    | succ k =>
      obtain ⟨h1, h2, h3⟩ := ih e (by omega) h.2 k (by simpa using hk)
      refine ⟨by simpa using h1, by simpa using h2, fun _ => ?_⟩
      cases k with
      | zero =>
        cases l with
        | nil => simp at hk
        | cons f l =>
          have := h.2
          unfold edsOk at this
          simp only [Bool.and_eq_true, decide_eq_true_eq] at this
          simp
          omega
      | succ k => simpa using h3 (by omega)
theorem stsOk_at (l : List (Int × Int)) (h : stsOk l = true) (k : Nat) (hk : k < l.length) : 0 ≤ (l[k]?.getD (0, 0)).1 ∧ (l[k]?.getD (0, 0)).1 < 6 ∧ 0 ≤ (l[k]?.getD (0, 0)).2 ∧ (l[k]?.getD (0, 0)).2 < 200 := by
  have := List.all_eq_true.1 h l[k] (List.getElem_mem hk)
  unfold stOk at this
  simp only [decide_eq_true_eq] at this
  rw [List.getElem?_eq_getElem hk]
  exact this

set_option maxHeartbeats 6400000 in
set_option maxRecDepth 100000 in
theorem good_ok (im inp : ByteArray) (fu de kd : Int) (sv ev : Value) (sts : List (Int × Int)) (eds : List Int) (w : World) (hS : Rd w sts.length sv (prI sts)) (hE : Rd w eds.length ev (inI eds)) (hok : okB im inp fu de kd sts eds = true) :
    Calls Tryz.prog 8 #[bunV im inp fu de kd sv ev] w fun e w' => e = .returned (.bool true) ∧ Below w.heap.size w w' := by
  obtain ⟨⟨h0, h1, h2, h3, h4, h5, h6, h7, h8⟩, h9, h10⟩ := okB_each hok
  have HST : Hid (∀ k, k < sts.length → 0 ≤ (sts[k]?.getD (0, 0)).1 ∧ (sts[k]?.getD (0, 0)).1 < 6 ∧ 0 ≤ (sts[k]?.getD (0, 0)).2 ∧ (sts[k]?.getD (0, 0)).2 < 200) := stsOk_at sts h9
  have HED : Hid (∀ k, k < eds.length → 0 ≤ eds[k]?.getD 0 ∧ eds[k]?.getD 0 ≤ 399 ∧ (0 < k → eds[k - 1]?.getD 0 < eds[k]?.getD 0)) := edsOk_at eds (-1) (by omega) h10
  obtain ⟨qs, cs, hvs, hns, hms, hSc⟩ := hS
  obtain ⟨qe, ce, hve, hne, hme, hEc⟩ := hE
  subst hvs hve
  unfold bunV
  unfold maxLen at hme hms
  obtain ⟨ns, HNS⟩ := nm sts.length
  obtain ⟨ne, HNE⟩ := nm eds.length
  rw [HNS.out] at hSc hns HST h8
  rw [HNE.out] at hEc hne HED
  rw [HNS.out, HNE.out]
  clear hok h9 h10
  go_enter Tryz.func8, Tryz.ntmps8
  go_wp2_with fail
  refine (check_any im _).mono ?_
  rintro e w1 ⟨rfl, hb1⟩
  rw [h0]
  have hk := (hb1.block w.heap.size (by simp)).trans (hp_new _ _)
  have HK : Hid (w1.heap[w.heap.size]? = some (.cells #[.string im, .int .i64 fu, .int .i64 de, .string inp, .int .i64 kd, .slice qs ns cs, .slice qe ne ce] 31)) := hk
  have HB : Hid (Below w.heap.size w w1) := ((Below.refl _ _).alloc (Nat.le_refl _) _).trans (hb1.mono (by simp))
  have hs1 : w.heap.size < w1.heap.size := by have := hb1.size; simp at this; omega
  obtain ⟨x0, x1, x2, x3, x4, x5, x6⟩ := z7_of hk
  generalize (Im.chk im).2 = cp
  have e1 : decide (fu < 0) = false := by simp; omega
  have e2 : decide (2000 < fu) = false := by simp; omega
  have e3 : decide (de < 0) = false := by simp; omega
  have e4 : decide (6 < de) = false := by simp; omega
  have e5 : decide ((24 : Int) < (inp.size : Int)) = false := by simp; omega
  have e6 : decide (kd < 1) = false := by simp; omega
  have e7 : decide (6 < kd) = false := by simp; omega
  have e8 : decide (de < (ns : Int)) = false := by simp; omega
  clear hk hb1 h0 h1 h2 h3 h4 h5 h6 h7 h8
  go_wp2
  clear e1 e2 e3 e4 e5 e6 e7 e8
  go_loopw [5] (fun i wr => ∃ j : Nat, i = .int .i64 j ∧ j ≤ ns ∧ Below w1.heap.size w1 wr) (fun i _ => ns - (intOf i).toNat)
  case atStart => exact ⟨0, rfl, by omega, Below.refl _ _⟩
  case round =>
    obtain ⟨j, rfl, hj, hb⟩ := hrel
    clear x0 x1 x2 x3 x4 x5 x6
    obtain ⟨x0, x1, x2, x3, x4, x5, x6⟩ := z7_of ((hb.block w.heap.size hs1).trans HK.out)
    have hsz := hb.size
    have HBr : Hid (Below w.heap.size w wr) := HB.out.trans (hb.mono (Nat.le_of_lt hs1))
    have HB1 : Hid (Below w1.heap.size w1 wr) := hb
    by_cases hlt : j < ns
    · obtain ⟨g, o, rfl, hg, hx⟩ := hSc (by omega)
      obtain ⟨q0, q1⟩ := prI_get sts j (by rw [HNS.out]; exact hlt)
      have y0 := (HBr.out.cell (p := ⟨g, o + j * 2, none⟩) hg).trans (hx _ _ q0)
      have y1 := (HBr.out.cell (p := ⟨g, o + (j * 2 + 1), none⟩) hg).trans (hx _ _ q1)
      rw [← Nat.add_assoc] at y1
      obtain ⟨k1, k2, k3, k4⟩ := HST.out j hlt
      generalize sts[j]?.getD (0, 0) = x at *
      obtain ⟨a0, a1⟩ := x
      dsimp only at y0 y1 k1 k2 k3 k4
      clear hx hSc hEc hb q0 q1 x0 x1 x2 x3 x4 x6
      go_wp2
      go_roundw
      case rel => exact ⟨j + 1, by go_num, by omega, HB1.out.alloc HB1.out.size _⟩
      case measure => simp [intOf]; omega
    · obtain rfl : j = ns := by omega
      obtain ⟨W2, rfl⟩ : ∃ W2, W2 = wr := ⟨_, rfl⟩
      have hs2 : w.heap.size < W2.heap.size := by omega
      have HK2 : Hid (W2.heap[w.heap.size]? = some (.cells #[.string im, .int .i64 fu, .int .i64 de, .string inp, .int .i64 kd, .slice qs j cs, .slice qe ne ce] 31)) := (hb.block w.heap.size hs1).trans HK.out
      clear hb hSc x0 x1 x2 x3 x4
      go_wp2
      go_loopw [7] (fun i wr => ∃ k : Nat, i = .int .i64 k ∧ k ≤ ne ∧ Below W2.heap.size W2 wr) (fun i _ => ne - (intOf i).toNat)
      case atStart => exact ⟨0, rfl, by omega, Below.refl _ _⟩
      case round =>
        obtain ⟨k, rfl, hk, hb2⟩ := hrel
        clear x5 x6
        obtain ⟨-, -, -, -, -, -, x6⟩ := z7_of ((hb2.block w.heap.size hs2).trans HK2.out)
        have HBq : Hid (Below w.heap.size w wr) := HBr.out.trans (hb2.mono (Nat.le_of_lt hs2))
        have HB2 : Hid (Below W2.heap.size W2 wr) := hb2
        clear hb2 hms hns hj hlt hs1 hs2 hsz
        by_cases hlt2 : k < ne
        · obtain ⟨g, o, rfl, hg, hx⟩ := hEc (by omega)
          have y := (HBq.out.cell (p := ⟨g, o + k, none⟩) hg).trans (hx k _ (inI_get eds k (by rw [HNE.out]; exact hlt2)))
          obtain ⟨f1, f2, f3⟩ := HED.out k hlt2
          by_cases hk0 : k = 0
          · subst hk0
            rw [Nat.add_zero] at y
            generalize eds[0]?.getD 0 = x at *
            have d1 : decide (x < 0) = false := by simp; omega
            have d2 : decide (399 < x) = false := by simp; omega
            have d3 : (0 : Int) < (ne : Int) := by omega
            clear hx hEc f1 f2 f3
            go_wp2
            go_quiet (fail)
            go_wp2
            go_roundw
            case rel => exact ⟨1, by go_num, by omega, ⟨HB2.out.os, HB2.out.tape, HB2.out.output, HB2.out.size, HB2.out.block⟩⟩
            case measure => simp [intOf]; omega
          · obtain ⟨m, rfl⟩ : ∃ m, k = m + 1 := ⟨k - 1, by omega⟩
            have yp := (HBq.out.cell (p := ⟨g, o + m, none⟩) hg).trans (hx m _ (inI_get eds m (by rw [HNE.out]; omega)))
            have f4 : eds[m]?.getD 0 < eds[m + 1]?.getD 0 := f3 (by omega)
            generalize eds[m + 1]?.getD 0 = x at *
            generalize eds[m]?.getD 0 = last at *
            have d1 : decide (x < 0) = false := by simp; omega
            have d2 : decide (399 < x) = false := by simp; omega
            have d3 : decide ((0 : Int) < (m : Int) + 1) = true := decide_eq_true (by omega)
            have d4 : decide (x ≤ last) = false := by simp; omega
            have d5 : (m : Int) + 1 - 1 = m := by omega
            have d6 : (m : Int) < (ne : Int) := by omega
            have d7 : (m : Int) + 1 < (ne : Int) := by omega
            clear hx hEc f1 f2 f3 f4
            go_wp2
            go_quiet (fail)
            go_wp2
            go_roundw
            case rel => exact ⟨m + 1 + 1, by go_num, by omega, ⟨HB2.out.os, HB2.out.tape, HB2.out.output, HB2.out.size, HB2.out.block⟩⟩
            case measure => simp [intOf]; omega
        · obtain rfl : k = ne := by omega
          clear hEc
          go_wp2
          go_ret
          exact ⟨rfl, HBq.out⟩
end Go.Proofs.YtbmaiioecnmopabGreatDoor

/-
  THE LAW Unpacks: its walk. By the verifier of the loop 'triage'.
-/

namespace Go.Proofs.YtbmaiioecnmopabGreatDoor
open Go.RowKit

/-- the text that is packed first: a trap. -/
def im0 : ByteArray := ⟨#[1, 1, 17]⟩
theorem ok0 : okB im0 ⟨#[]⟩ 0 0 5 [] [] = true := by decide
theorem okN_parse {P : Bu.Bn} (h1 : Bu.Byt P.im) (h2 : Bu.Byt P.inp) (h : okN P = true) : Bu.parse (Bu.text P) = P := by
  have := small_of h
  rw [bnOf_self P h1 h2] at this
  exact Bu.parse_text P this
/-- the first bundle, and its text. -/
def bn0 : Bu.Bn := bnOf im0 ⟨#[]⟩ 0 0 5 [] []
theorem byt0 : Bu.Byt (Bu.text bn0) := Bu.byt_text bn0 (byt_lst im0) (byt_lst ⟨#[]⟩)
theorem parse0 : Bu.parse (lst (ofL (Bu.text bn0))) = bn0 := by
  rw [lst_ofL byt0]
  exact Bu.parse_text bn0 (small_of ok0)
theorem okN0 : okN bn0 = true := by
  have e1 : ofL bn0.im = im0 := ofL_lst im0
  have e2 : ofL bn0.inp = ⟨#[]⟩ := ofL_lst ⟨#[]⟩
  unfold okN
  rw [e1, e2]
  exact ok0
theorem mem_sz {l : List Nat} (h : l.length ≤ 1000000) : (ofL l).size ≤ maxLen := by
  have : (ofL l).size = l.length := by unfold ofL; simp [ByteArray.size]
  unfold maxLen
  omega
theorem text0_len : (Bu.text bn0).length ≤ 1000000 := by
  show (Bu.body bn0 ++ Bu.four _).length ≤ 1000000
  rw [List.length_append]
  have : (Bu.body bn0).length ≤ 1000 := by decide
  have h4 : ∀ n, (Bu.four n).length = 4 := fun _ => rfl
  rw [h4]
  omega

theorem parse_byt {l : List Nat} (h : Bu.Byt l) : Bu.Byt (Bu.parse l).im ∧ Bu.Byt (Bu.parse l).inp := by
  have hd : ∀ (m : List Nat) (n : Nat), Bu.Byt m → Bu.Byt (m.drop n) := fun m n hm b hb => hm b (List.mem_of_mem_drop hb)
  have ht : ∀ (m : List Nat) (n : Nat), Bu.Byt m → Bu.Byt (m.take n) := fun m n hm b hb => hm b (List.mem_of_mem_take hb)
  have h1 : ∀ m, Bu.Byt m → Bu.Byt (Bu.rnum m).2 := fun m hm => hd m 2 hm
  have h2 : ∀ m, Bu.Byt m → Bu.Byt (Bu.rtxt m).1 ∧ Bu.Byt (Bu.rtxt m).2 := fun m hm => ⟨ht _ _ (h1 m hm), hd _ _ (h1 m hm)⟩
  unfold Bu.parse
  dsimp only
  have h3 := h1 _ (h1 _ (h1 _ h))
  exact ⟨(h2 _ h3).1, (h2 _ (h2 _ h3).2).1⟩

end Go.Proofs.YtbmaiioecnmopabGreatDoor

/-
  BUNDLES, THE DOCUMENT's SIDE (package triageref): Good, of a bundle whose numbers are out of bounds. By the verifier of the loop 'triage'.
-/
namespace Go.Proofs.YtbmaiioecnmopabGreatDoor
open Go.RowKit

set_option maxHeartbeats 3200000 in
set_option maxRecDepth 100000 in
theorem good_arg (im inp : ByteArray) (fu de kd : Int) (sv ev : Value) (sts : List (Int × Int)) (eds : List Int) (w : World) (hm : inp.size ≤ maxLen) (hS : Rd w sts.length sv (prI sts)) (hE : Rd w eds.length ev (inI eds)) (hna : ¬ ArgOk im inp fu de kd sts.length) :
    Calls Tryz.prog 8 #[bunV im inp fu de kd sv ev] w fun e w' => e = .returned (.bool (okB im inp fu de kd sts eds)) ∧ Below w.heap.size w w' := by
  obtain ⟨qs, cs, hvs, hns, hms, hSc⟩ := hS
  obtain ⟨qe, ce, hve, hne, hme, hEc⟩ := hE
  subst hvs hve
  unfold bunV
  unfold maxLen at hme hms hm
  have HNA : Hid (¬ ArgOk im inp fu de kd sts.length) := hna
  have HA : Hid (ArgOk im inp fu de kd sts.length → okB im inp fu de kd sts eds = (stsOk sts && edsOk (-1) eds)) := okB_arg
  have HN : Hid (¬ ArgOk im inp fu de kd sts.length → okB im inp fu de kd sts eds = false) := okB_bad
  obtain ⟨q, HQ⟩ := nm (okB im inp fu de kd sts eds)
  rw [HQ.out] at HA HN
  rw [HQ.out]
  obtain ⟨ns, HNS⟩ := nm sts.length
  obtain ⟨ne, HNE⟩ := nm eds.length
  rw [HNS.out] at hSc hns HA HN HNA
  clear hna HA
  rw [HNE.out] at hEc hne
  rw [HNS.out, HNE.out]
  go_enter Tryz.func8, Tryz.ntmps8
  go_wp2_with fail
  refine (check_any im _).mono ?_
  rintro e w1 ⟨rfl, hb1⟩
  have hk := (hb1.block w.heap.size (by simp)).trans (hp_new _ _)
  have HK : Hid (w1.heap[w.heap.size]? = some (.cells #[.string im, .int .i64 fu, .int .i64 de, .string inp, .int .i64 kd, .slice qs ns cs, .slice qe ne ce] 31)) := hk
  have HB : Hid (Below w.heap.size w w1) := ((Below.refl _ _).alloc (Nat.le_refl _) _).trans (hb1.mono (by simp))
  have hs1 : w.heap.size < w1.heap.size := by have := hb1.size; simp at this; omega
  obtain ⟨x0, x1, x2, x3, x4, x5, x6⟩ := z7_of hk
  clear hk hb1
  by_cases hch : (Im.chk im).1 = 0
  · have HCH : Hid ((Im.chk im).1 = 0) := hch
    rw [hch]
    generalize (Im.chk im).2 = cp
    clear hch
    by_cases h1 : fu < 0
    · have HF : Hid (q = false) := HN.out (by intro ⟨_, _, _, _, _, _, _, _, _⟩; omega)
      have e1 : decide (fu < 0) = true := decide_eq_true h1
      clear hSc hEc h1
      go_wp2
      go_ret
      exact ⟨by rw [HF.out]; rfl, HB.out⟩
    by_cases h2 : 2000 < fu
    · have HF : Hid (q = false) := HN.out (by intro ⟨_, _, _, _, _, _, _, _, _⟩; omega)
      have e1 : decide (fu < 0) = false := decide_eq_false h1
      have e2 : decide (2000 < fu) = true := decide_eq_true h2
      clear hSc hEc h1 h2
      go_wp2
      go_ret
      exact ⟨by rw [HF.out]; rfl, HB.out⟩
    by_cases h3 : de < 0
    · have HF : Hid (q = false) := HN.out (by intro ⟨_, _, _, _, _, _, _, _, _⟩; omega)
      have e1 : decide (fu < 0) = false := decide_eq_false h1
      have e2 : decide (2000 < fu) = false := decide_eq_false h2
      have e3 : decide (de < 0) = true := decide_eq_true h3
      clear hSc hEc h1 h2 h3
      go_wp2
      go_ret
      exact ⟨by rw [HF.out]; rfl, HB.out⟩
    by_cases h4 : 6 < de
    · have HF : Hid (q = false) := HN.out (by intro ⟨_, _, _, _, _, _, _, _, _⟩; omega)
      have e1 : decide (fu < 0) = false := decide_eq_false h1
      have e2 : decide (2000 < fu) = false := decide_eq_false h2
      have e3 : decide (de < 0) = false := decide_eq_false h3
      have e4 : decide (6 < de) = true := decide_eq_true h4
      clear hSc hEc h1 h2 h3 h4
      go_wp2
      go_ret
      exact ⟨by rw [HF.out]; rfl, HB.out⟩
    by_cases h5 : (24 : Int) < (inp.size : Int)
    · have HF : Hid (q = false) := HN.out (by intro ⟨_, _, _, _, _, _, _, _, _⟩; omega)
      have e1 : decide (fu < 0) = false := decide_eq_false h1
      have e2 : decide (2000 < fu) = false := decide_eq_false h2
      have e3 : decide (de < 0) = false := decide_eq_false h3
      have e4 : decide (6 < de) = false := decide_eq_false h4
      have e5 : decide ((24 : Int) < (inp.size : Int)) = true := decide_eq_true h5
      clear hSc hEc h1 h2 h3 h4 h5
      go_wp2
      go_ret
      exact ⟨by rw [HF.out]; rfl, HB.out⟩
    by_cases h6 : kd < 1
    · have HF : Hid (q = false) := HN.out (by intro ⟨_, _, _, _, _, _, _, _, _⟩; omega)
      have e1 : decide (fu < 0) = false := decide_eq_false h1
      have e2 : decide (2000 < fu) = false := decide_eq_false h2
      have e3 : decide (de < 0) = false := decide_eq_false h3
      have e4 : decide (6 < de) = false := decide_eq_false h4
      have e5 : decide ((24 : Int) < (inp.size : Int)) = false := decide_eq_false h5
      have e6 : decide (kd < 1) = true := decide_eq_true h6
      clear hSc hEc h1 h2 h3 h4 h5 h6
      go_wp2
      go_ret
      exact ⟨by rw [HF.out]; rfl, HB.out⟩
    by_cases h7 : 6 < kd
    · have HF : Hid (q = false) := HN.out (by intro ⟨_, _, _, _, _, _, _, _, _⟩; omega)
      have e1 : decide (fu < 0) = false := decide_eq_false h1
      have e2 : decide (2000 < fu) = false := decide_eq_false h2
      have e3 : decide (de < 0) = false := decide_eq_false h3
      have e4 : decide (6 < de) = false := decide_eq_false h4
      have e5 : decide ((24 : Int) < (inp.size : Int)) = false := decide_eq_false h5
      have e6 : decide (kd < 1) = false := decide_eq_false h6
      have e7 : decide (6 < kd) = true := decide_eq_true h7
      clear hSc hEc h1 h2 h3 h4 h5 h6 h7
      go_wp2
      go_ret
      exact ⟨by rw [HF.out]; rfl, HB.out⟩
    by_cases h8 : de < (ns : Int)
    · have HF : Hid (q = false) := HN.out (by intro ⟨_, _, _, _, _, _, _, _, _⟩; omega)
      have e1 : decide (fu < 0) = false := decide_eq_false h1
      have e2 : decide (2000 < fu) = false := decide_eq_false h2
      have e3 : decide (de < 0) = false := decide_eq_false h3
      have e4 : decide (6 < de) = false := decide_eq_false h4
      have e5 : decide ((24 : Int) < (inp.size : Int)) = false := decide_eq_false h5
      have e6 : decide (kd < 1) = false := decide_eq_false h6
      have e7 : decide (6 < kd) = false := decide_eq_false h7
      have e8 : decide (de < (ns : Int)) = true := decide_eq_true h8
      clear hSc hEc h1 h2 h3 h4 h5 h6 h7 h8
      go_wp2
      go_ret
      exact ⟨by rw [HF.out]; rfl, HB.out⟩
    exact absurd ⟨HCH.out, by omega, by omega, by omega, by omega, by omega, by omega, by omega, by omega⟩ HNA.out
  · have HF : Hid (q = false) := HN.out (by intro h; exact hch h.1)
    have hcb : ((Im.chk im).1 == 0) = false := by simpa using hch
    generalize (Im.chk im).1 = cc at *
    generalize (Im.chk im).2 = cp at *
    clear hSc hEc
    go_wp2
    go_ret
    exact ⟨by rw [HF.out]; rfl, HB.out⟩
end Go.Proofs.YtbmaiioecnmopabGreatDoor

/-
  BUNDLES, THE DOCUMENT's SIDE (package triageref): Good, of any bundle. By the verifier of the loop 'triage'.
-/
namespace Go.Proofs.YtbmaiioecnmopabGreatDoor
open Go.RowKit

set_option maxHeartbeats 6400000 in
set_option maxRecDepth 100000 in
theorem good_lists (im inp : ByteArray) (fu de kd : Int) (sv ev : Value) (sts : List (Int × Int)) (eds : List Int) (w : World) (hS : Rd w sts.length sv (prI sts)) (hE : Rd w eds.length ev (inI eds)) (hok : ArgOk im inp fu de kd sts.length) :
    Calls Tryz.prog 8 #[bunV im inp fu de kd sv ev] w fun e w' => e = .returned (.bool (stsOk sts && edsOk (-1) eds)) ∧ Below w.heap.size w w' := by
  obtain ⟨h0, h1, h2, h3, h4, h5, h6, h7, h8⟩ := hok
  obtain ⟨qs, cs, hvs, hns, hms, hSc⟩ := hS
  obtain ⟨qe, ce, hve, hne, hme, hEc⟩ := hE
  subst hvs hve
  unfold bunV
  unfold maxLen at hme hms
  obtain ⟨ns, HNS⟩ := nm sts.length
  obtain ⟨ne, HNE⟩ := nm eds.length
  rw [HNS.out] at hSc hns h8
  rw [HNE.out] at hEc hne
  rw [HNS.out, HNE.out]
  obtain ⟨q, HQ⟩ := nm (stsOk sts && edsOk (-1) eds)
  rw [HQ.out]
  go_enter Tryz.func8, Tryz.ntmps8
  go_wp2_with fail
  refine (check_any im _).mono ?_
  rintro e w1 ⟨rfl, hb1⟩
  rw [h0]
  have hk := (hb1.block w.heap.size (by simp)).trans (hp_new _ _)
  have HK : Hid (w1.heap[w.heap.size]? = some (.cells #[.string im, .int .i64 fu, .int .i64 de, .string inp, .int .i64 kd, .slice qs ns cs, .slice qe ne ce] 31)) := hk
  have HB : Hid (Below w.heap.size w w1) := ((Below.refl _ _).alloc (Nat.le_refl _) _).trans (hb1.mono (by simp))
  have hs1 : w.heap.size < w1.heap.size := by have := hb1.size; simp at this; omega
  obtain ⟨x0, x1, x2, x3, x4, x5, x6⟩ := z7_of hk
  generalize (Im.chk im).2 = cp
  have e1 : decide (fu < 0) = false := by simp; omega
  have e2 : decide (2000 < fu) = false := by simp; omega
  have e3 : decide (de < 0) = false := by simp; omega
  have e4 : decide (6 < de) = false := by simp; omega
  have e5 : decide ((24 : Int) < (inp.size : Int)) = false := by simp; omega
  have e6 : decide (kd < 1) = false := by simp; omega
  have e7 : decide (6 < kd) = false := by simp; omega
  have e8 : decide (de < (ns : Int)) = false := by simp; omega
  clear hk hb1 h0 h1 h2 h3 h4 h5 h6 h7 h8
  go_wp2
  clear e1 e2 e3 e4 e5 e6 e7 e8
  go_loopw [5] (fun i wr => ∃ j : Nat, i = .int .i64 j ∧ j ≤ ns ∧ q = (stsOk (sts.drop j) && edsOk (-1) eds) ∧ Below w1.heap.size w1 wr) (fun i _ => ns - (intOf i).toNat)
  case atStart => exact ⟨0, rfl, by omega, HQ.out.symm, Below.refl _ _⟩
  case round =>
    obtain ⟨j, rfl, hj, hq, hb⟩ := hrel
    clear x0 x1 x2 x3 x4 x5 x6
    obtain ⟨x0, x1, x2, x3, x4, x5, x6⟩ := z7_of ((hb.block w.heap.size hs1).trans HK.out)
    have hsz := hb.size
    have HBr : Hid (Below w.heap.size w wr) := HB.out.trans (hb.mono (Nat.le_of_lt hs1))
    have HB1 : Hid (Below w1.heap.size w1 wr) := hb
    by_cases hlt : j < ns
    · obtain ⟨g, o, rfl, hg, hx⟩ := hSc (by omega)
      obtain ⟨q0, q1⟩ := prI_get sts j (by rw [HNS.out]; exact hlt)
      have y0 := (HBr.out.cell (p := ⟨g, o + j * 2, none⟩) hg).trans (hx _ _ q0)
      have y1 := (HBr.out.cell (p := ⟨g, o + (j * 2 + 1), none⟩) hg).trans (hx _ _ q1)
      rw [← Nat.add_assoc] at y1
      have HD := stsOk_drop sts j (by rw [HNS.out]; exact hlt)
      rw [HD] at hq
      generalize sts[j]?.getD (0, 0) = x at *
      obtain ⟨a0, a1⟩ := x
      dsimp only at y0 y1
      clear hx hSc hEc hb q0 q1 HD
      by_cases hok : 0 ≤ a0 ∧ a0 < 6 ∧ 0 ≤ a1 ∧ a1 < 200
      · have HF : Hid (q = (stsOk (sts.drop (j + 1)) && edsOk (-1) eds)) := by
          show q = (stsOk (sts.drop (j + 1)) && edsOk (-1) eds)
          rw [hq]; unfold stOk; rw [decide_eq_true hok]; rfl
        obtain ⟨k1, k2, k3, k4⟩ := hok
        clear hq
        go_wp2
        go_roundw
        case rel => exact ⟨j + 1, by go_num, by omega, HF.out, HB1.out.alloc HB1.out.size _⟩
        case measure => simp [intOf]; omega
      · have HF : Hid (q = false) := by
          show q = false
          rw [hq]; unfold stOk; rw [decide_eq_false hok]; rfl
        clear hq
        by_cases k1 : a0 < 0
        · go_wp2
          go_ret
          exact ⟨by rw [HF.out]; rfl, HBr.out.alloc HBr.out.size _⟩
        · by_cases k2 : 6 ≤ a0
          · go_wp2
            go_ret
            exact ⟨by rw [HF.out]; rfl, HBr.out.alloc HBr.out.size _⟩
          · by_cases k3 : a1 < 0
            · go_wp2
              go_ret
              exact ⟨by rw [HF.out]; rfl, HBr.out.alloc HBr.out.size _⟩
            · have k4 : 200 ≤ a1 := by omega
              go_wp2
              go_ret
              exact ⟨by rw [HF.out]; rfl, HBr.out.alloc HBr.out.size _⟩
    · obtain rfl : j = ns := by omega
      have HF0 : Hid (q = edsOk (-1) eds) := by
        show q = edsOk (-1) eds
        rw [hq, List.drop_of_length_le (by rw [HNS.out]; exact Nat.le_refl _)]; rfl
      obtain ⟨W2, rfl⟩ : ∃ W2, W2 = wr := ⟨_, rfl⟩
      have hs2 : w.heap.size < W2.heap.size := by omega
      have HK2 : Hid (W2.heap[w.heap.size]? = some (.cells #[.string im, .int .i64 fu, .int .i64 de, .string inp, .int .i64 kd, .slice qs j cs, .slice qe ne ce] 31)) := (hb.block w.heap.size hs1).trans HK.out
      clear hq hb hSc
      go_wp2
      go_loopw [7] (fun i wr => ∃ (k : Nat) (last : Int), i = .int .i64 k ∧ k ≤ ne ∧ q = edsOk last (eds.drop k) ∧ ((k = 0 ∧ last = -1) ∨ (0 < k ∧ last = eds[k - 1]?.getD 0 ∧ 0 ≤ last)) ∧ Below W2.heap.size W2 wr) (fun i _ => ne - (intOf i).toNat)
      case atStart => exact ⟨0, -1, rfl, by omega, HF0.out, Or.inl ⟨rfl, rfl⟩, Below.refl _ _⟩
      case round =>
        obtain ⟨k, last, rfl, hk, hq, hla, hb2⟩ := hrel
        clear x0 x1 x2 x3 x4 x5 x6
        obtain ⟨x0, x1, x2, x3, x4, x5, x6⟩ := z7_of ((hb2.block w.heap.size hs2).trans HK2.out)
        have HBq : Hid (Below w.heap.size w wr) := HBr.out.trans (hb2.mono (Nat.le_of_lt hs2))
        have HB2 : Hid (Below W2.heap.size W2 wr) := hb2
        have hsz2 := hb2.size
        by_cases hlt2 : k < ne
        · obtain ⟨g, o, rfl, hg, hx⟩ := hEc (by omega)
          have y := (HBq.out.cell (p := ⟨g, o + k, none⟩) hg).trans (hx k _ (inI_get eds k (by rw [HNE.out]; exact hlt2)))
          have HD := edsOk_drop last eds k (by rw [HNE.out]; exact hlt2)
          rw [HD] at hq
          clear HD hb2 x0 x1 x2 x3 x4 x5 hms hns hj hlt hs1 hs2 hsz hsz2
          rcases hla with ⟨rfl, rfl⟩ | ⟨hk0, hle, hl0⟩
          · rw [Nat.add_zero] at y
            obtain ⟨x, HX⟩ := nm (eds[0]?.getD 0)
            rw [HX.out] at y hq
            clear hx hEc
            by_cases h10 : x < 0
            · have HF : Hid (q = false) := by
                show q = false
                rw [hq, decide_eq_false (by omega)]; rfl
              have f1 : decide (x < 0) = true := by simpa using h10
              clear hq
              have f7 : (0 : Int) < (ne : Int) := by omega
              go_wp2
              go_quiet (fail)
              go_wp2
              go_ret
              exact ⟨by rw [HF.out]; rfl, ⟨HBq.out.os, HBq.out.tape, HBq.out.output, HBq.out.size, HBq.out.block⟩⟩
            · by_cases h11 : 399 < x
              · have HF : Hid (q = false) := by
                  show q = false
                  rw [hq, decide_eq_false (by omega)]; rfl
                clear hq
                have f1 : decide (x < 0) = false := by simp; omega
                have f2 : decide (399 < x) = true := decide_eq_true h11
                have f7 : (0 : Int) < (ne : Int) := by omega
                go_wp2
                go_quiet (fail)
                go_wp2
                go_ret
                exact ⟨by rw [HF.out]; rfl, ⟨HBq.out.os, HBq.out.tape, HBq.out.output, HBq.out.size, HBq.out.block⟩⟩
              · have HF : Hid (q = edsOk x (eds.drop (0 + 1))) := by
                  show q = edsOk x (eds.drop (0 + 1))
                  rw [hq, decide_eq_true (by omega)]; rfl
                clear hq
                have f1 : decide (x < 0) = false := by simp; omega
                have f2 : decide (399 < x) = false := by simp; omega
                have f7 : (0 : Int) < (ne : Int) := by omega
                go_wp2
                go_quiet (fail)
                go_wp2
                go_roundw
                case rel => exact ⟨1, x, by go_num, by omega, HF.out, Or.inr ⟨by omega, HX.out.symm, by omega⟩, ⟨HB2.out.os, HB2.out.tape, HB2.out.output, HB2.out.size, HB2.out.block⟩⟩
                case measure => simp [intOf]; omega
          · obtain ⟨m, rfl⟩ : ∃ m, k = m + 1 := ⟨k - 1, by omega⟩
            rw [show m + 1 - 1 = m from rfl] at hle
            have yp := (HBq.out.cell (p := ⟨g, o + m, none⟩) hg).trans (hx m _ (inI_get eds m (by rw [HNE.out]; omega)))
            rw [← hle] at yp
            have HX : Hid (eds[m + 1]?.getD 0 = eds[(m + 1 + 1) - 1]?.getD 0) := rfl
            generalize eds[m + 1]?.getD 0 = x at *
            clear hx hEc hle
            by_cases h10 : x < 0
            · have HF : Hid (q = false) := by
                show q = false
                rw [hq, decide_eq_false (by omega)]; rfl
              have f1 : decide (x < 0) = true := by simpa using h10
              clear hq
              have f7 : (m : Int) + 1 < (ne : Int) := by omega
              go_wp2
              go_quiet (fail)
              go_wp2
              go_ret
              exact ⟨by rw [HF.out]; rfl, ⟨HBq.out.os, HBq.out.tape, HBq.out.output, HBq.out.size, HBq.out.block⟩⟩
            · by_cases h11 : 399 < x
              · have HF : Hid (q = false) := by
                  show q = false
                  rw [hq, decide_eq_false (by omega)]; rfl
                clear hq
                have f1 : decide (x < 0) = false := by simp; omega
                have f2 : decide (399 < x) = true := decide_eq_true h11
                have f7 : (m : Int) + 1 < (ne : Int) := by omega
                go_wp2
                go_quiet (fail)
                go_wp2
                go_ret
                exact ⟨by rw [HF.out]; rfl, ⟨HBq.out.os, HBq.out.tape, HBq.out.output, HBq.out.size, HBq.out.block⟩⟩
              · by_cases h12 : x ≤ last
                · have HF : Hid (q = false) := by
                    show q = false
                    rw [hq, decide_eq_false (by omega)]; rfl
                  clear hq
                  have f1 : decide (x < 0) = false := by simp; omega
                  have f2 : decide (399 < x) = false := by simp; omega
                  have f3 : decide ((0 : Int) < (m : Int) + 1) = true := decide_eq_true (by omega)
                  have f4 : decide (x ≤ last) = true := by simpa using h12
                  have f5 : (m : Int) + 1 - 1 = m := by omega
                  have f6 : (m : Int) < (ne : Int) := by omega
                  have f7 : (m : Int) + 1 < (ne : Int) := by omega
                  go_wp2
                  go_quiet (fail)
                  go_wp2
                  go_ret
                  exact ⟨by rw [HF.out]; rfl, ⟨HBq.out.os, HBq.out.tape, HBq.out.output, HBq.out.size, HBq.out.block⟩⟩
                · have HF : Hid (q = edsOk x (eds.drop (m + 1 + 1))) := by
                    show q = edsOk x (eds.drop (m + 1 + 1))
                    rw [hq, decide_eq_true (by omega)]; rfl
                  clear hq
                  have f1 : decide (x < 0) = false := by simp; omega
                  have f2 : decide (399 < x) = false := by simp; omega
                  have f3 : decide ((0 : Int) < (m : Int) + 1) = true := decide_eq_true (by omega)
                  have f4 : decide (x ≤ last) = false := by simp; omega
                  have f5 : (m : Int) + 1 - 1 = m := by omega
                  have f6 : (m : Int) < (ne : Int) := by omega
                  have f7 : (m : Int) + 1 < (ne : Int) := by omega
                  go_wp2
                  go_quiet (fail)
                  go_wp2
                  go_roundw
                  case rel => exact ⟨m + 1 + 1, x, by go_num, by omega, HF.out, Or.inr ⟨by omega, HX.out, by omega⟩, ⟨HB2.out.os, HB2.out.tape, HB2.out.output, HB2.out.size, HB2.out.block⟩⟩
                  case measure => simp [intOf]; omega
        · obtain rfl : k = ne := by omega
          have HF : Hid (q = true) := by
            show q = true
            rw [hq, List.drop_of_length_le (by rw [HNE.out]; exact Nat.le_refl _)]; rfl
          clear hq hla hb2 hEc
          go_wp2
          go_ret
          exact ⟨by rw [HF.out]; rfl, HBq.out⟩

theorem good_bun (im inp : ByteArray) (fu de kd : Int) (sv ev : Value) (sts : List (Int × Int)) (eds : List Int) (w : World) (hm : inp.size ≤ maxLen) (hS : Rd w sts.length sv (prI sts)) (hE : Rd w eds.length ev (inI eds)) :
    Calls Tryz.prog 8 #[bunV im inp fu de kd sv ev] w fun e w' => e = .returned (.bool (okB im inp fu de kd sts eds)) ∧ Below w.heap.size w w' := by
  by_cases h : ArgOk im inp fu de kd sts.length
  · rw [okB_arg h]
    exact good_lists im inp fu de kd sv ev sts eds w hS hE h
  · exact good_arg im inp fu de kd sv ev sts eds w hm hS hE h
end Go.Proofs.YtbmaiioecnmopabGreatDoor

/-
  THE LAW Packs: its walk. By the verifier of the loop 'triage'.
-/
namespace Go.Proofs.YtbmaiioecnmopabGreatDoor
open Go.RowKit

theorem okN_of {im inp : ByteArray} {fu de kd : Int} {sts : List (Int × Int)} {eds : List Int} (h : okB im inp fu de kd sts eds = true) : okN (bnOf im inp fu de kd sts eds) = true := by
  obtain ⟨⟨h0, h1, h2, h3, h4, h5, h6, h7, h8⟩, h9, h10⟩ := okB_parts h
  unfold okN bnOf
  rw [ofL_lst, ofL_lst, up_dnP sts h9, up_dnI eds h10]
  rw [show ((fu.toNat : Nat) : Int) = fu from by omega, show ((de.toNat : Nat) : Int) = de from by omega, show ((kd.toNat : Nat) : Int) = kd from by omega]
  exact h
theorem text_len (P : Bu.Bn) : (Bu.text P).length = 18 + P.im.length + P.inp.length + 4 * P.sts.length + 2 * P.eds.length := by
  unfold Bu.text Bu.sealed Bu.body Bu.txt
  simp only [List.length_append, Bu.two_len, Bu.flat_len, Bu.twos_len]
  have h4 : ∀ n, (Bu.four n).length = 4 := fun _ => rfl
  rw [h4]
  omega

end Go.Proofs.YtbmaiioecnmopabGreatDoor
