/-
  THE LAW Parts: its walk. By the verifier of the loop 'triage'.
-/
import Derived.Test.YtbmaiioecnmopaaGreatDoorJ40
namespace Go.Proofs.YtbmaiioecnmopaaGreatDoor
open Go.RowKit

theorem made_ints (n : Nat) : (madeCells #[Value.int .i64 0] n).toList = ints (inL (fun _ => 0) n) := by
  apply List.ext_getElem?
  intro j
  by_cases hj : j < n
  · rw [ints_get _ j (by rw [inL_len]; exact hj), inL_get _ _ _ hj]
    simp [madeCells, hj, Nat.mod_one]
  · rw [List.getElem?_eq_none (by simp [madeCells]; omega), List.getElem?_eq_none (by unfold ints; rw [List.length_map, inL_len]; omega)]
theorem ky_depth {s inp : ByteArray} {fuel d : Nat} {k : Bk.Ky} (h : ky s fuel d inp = some k) : k.2.length ≤ d := by
  obtain ⟨-, rfl⟩ := ky_some h
  simp [List.length_take]; omega
/-- the reports of the first j inputs. -/
def rpsL (s : ByteArray) (fu : Nat) (L : List ByteArray) (j : Nat) : List Rp := (List.range j).map fun i => rep s fu (L[i]?.getD ByteArray.empty)
theorem rpsL_len (s : ByteArray) (fu : Nat) (L : List ByteArray) (j : Nat) : (rpsL s fu L j).length = j := by simp [rpsL]
theorem rpsL_succ (s : ByteArray) (fu : Nat) (L : List ByteArray) (j : Nat) : rpsL s fu L (j + 1) = rpsL s fu L j ++ [rep s fu (L[j]?.getD ByteArray.empty)] := by simp [rpsL, List.range_succ]
theorem rpsL_at (s : ByteArray) (fu : Nat) (L : List ByteArray) (j i : Nat) (h : i < j) : rpAt (rpsL s fu L j) i = rep s fu (L[i]?.getD ByteArray.empty) := by
  unfold rpAt rpsL
  rw [List.getElem?_map, List.getElem?_range h]
  rfl
theorem rep_zero {s inp : ByteArray} {fuel : Nat} (h : (rep s fuel inp).k = 0) : fuel = 0 := by
  have hm := rep_mor s inp fuel
  by_cases h2 : (rep s fuel inp).en = 2
  · have := (hm.two h2).1; omega
  · have := (hm.not h2).2; omega

set_option maxHeartbeats 60000000 in
set_option maxRecDepth 100000 in
theorem parts_walk (s : ByteArray) (fuel depth : Int) (L : List ByteArray) (v : Value) (w : World) (hG : Glob w) (hI : Ins L v w) :
    Calls Tryz.prog 3 #[.string s, .int .i64 fuel, .int .i64 depth, v] w fun e w' => e = .returned (.bool true) ∧ Below w.heap.size w w' := by
  obtain ⟨i0, hi0, hz0, hz1, hz2⟩ := info_parts Tryz.infoInt
  obtain ⟨iR, hiR, hR0, hR1, hR2⟩ := info_parts Tryz.infoReport
  have hRS : 39 ≠ 34 := by decide
  have HG : Hid (Glob w) := hG
  have HI : Hid (Ins L v w) := hI
  obtain ⟨a, cap, rfl, hcap, hmax, hcell, -⟩ := hI
  unfold maxLen at hmax
  obtain ⟨len, HLEN⟩ : ∃ len, Hid (L.length = len) := ⟨_, rfl⟩
  rw [HLEN.out] at HI hcap hcell
  rw [HLEN.out]
  have HCELL : Hid (0 < len → ∃ g o, a = some ⟨g, o, none⟩ ∧ g < w.heap.size ∧ ∀ i, i < len → w.cell? ⟨g, o + i, none⟩ = some (.string (L[i]?.getD ByteArray.empty))) := hcell
  clear hG hcell
  go_enter Tryz.func3, Tryz.ntmps3
  go_wp2_with fail
  refine (alive_any _ HG.out).mono ?_
  rintro e w1 ⟨rfl, hb1⟩
  have HB1 : Hid (Below w.heap.size w w1) := hb1
  clear hb1
  go_wp2_with fail
  refine (codeBuckets_any s fuel depth L _ _ (HG.out.below HB1.out) (HI.out.below HB1.out)).mono ?_
  rintro e w2 ⟨hb2, hp⟩
  have HB2 : Hid (Below w.heap.size w w2) := HB1.out.trans (hb2.mono HB1.out.size)
  clear hb2
  rcases hp with ⟨hne, rfl⟩ | ⟨hok, S, M, v1, rfl, h1⟩
  · obtain ⟨hpos, hor⟩ := askP_pos hne
    generalize (askP s fuel depth L).1 = c at *
    generalize (askP s fuel depth L).2 = p at *
    have e1 : (c == 0) = false := by simpa using hne
    have e2 : (c != 0) = true := by simpa using hne
    go_wp2_with (go_at_call 9; refine (num_any _ _).mono ?_; rintro e w' ⟨rfl, rfl⟩)
    refine (codeCheck_any s _ (HG.out.below HB2.out)).mono ?_
    rintro e w3 ⟨rfl, hb3⟩
    have HB3 : Hid (Below w.heap.size w w3) := HB2.out.trans (hb3.mono HB2.out.size)
    clear hb3
    generalize (Im.chk s).1 = q at *
    generalize (Im.chk s).2 = p' at *
    by_cases hq : q = 0
    · subst hq
      go_wp2_with (go_at_call 9; refine (num_any _ _).mono ?_; rintro e w' ⟨rfl, rfl⟩)
      go_ret
      exact ⟨by simp [*], HB3.out⟩
    · obtain rfl : c = q := by omega
      go_wp2_with (go_at_call 9; refine (num_any _ _).mono ?_; rintro e w' ⟨rfl, rfl⟩)
      go_ret
      exact ⟨by simp [*], HB3.out⟩
  · have HOK : Hid (AskOk s fuel depth L) := hok
    obtain ⟨fu, rfl⟩ : ∃ fu : Nat, fuel = (fu : Int) := ⟨fuel.toNat, by have := HOK.out.fu; omega⟩
    obtain ⟨d, rfl⟩ : ∃ d : Nat, depth = (d : Int) := ⟨depth.toNat, by have := HOK.out.de; omega⟩
    have hf : fu ≤ 2000 := by have := HOK.out.fu; omega
    have hd : d ≤ 6 := by have := HOK.out.de; omega
    have hc := HOK.out.chk
    have hn : len ≤ 12 := by have := HOK.out.n; have := HLEN.out; omega
    rw [Int.toNat_natCast, Int.toNat_natCast, HLEN.out] at h1
    have HPT : Hid (Bk.Part (kys s fu d L) (zs L) len (Bk.bks (kys s fu d L) (zs L) len)) := Bk.bks_part _ _ _
    have hll := Bk.bks_len (kys s fu d L) (zs L) len
    have HK6 : Hid (∀ b ∈ Bk.bks (kys s fu d L) (zs L) len, b.key.2.length ≤ d) := Bk.bks_key _ _ (fun k => k.2.length ≤ d) (fun i k hk => ky_depth (s := s) (inp := L[i]?.getD ByteArray.empty) (fuel := fu) hk) len
    generalize Bk.bks (kys s fu d L) (zs L) len = l at *
    obtain ⟨a1, c1, hv1, -⟩ := h1.shape
    subst hv1
    have HBk2 : Hid (BkM 44 34 w1.heap.size l S M (.slice a1 l.length c1) w2) := h1
    have HLO : Hid (BkLo w2.heap.size l S M (.slice a1 l.length c1)) := h1.los (Nat.le_refl _)
    clear hok h1
    go_wp2_with (first | (go_at_call 9; refine (num_any _ _).mono ?_; rintro e w' ⟨rfl, rfl⟩) | (at_make; go_loud (refine wpList_make_full _ rfl _ _ 32 rfl w2.heap.size 3 i0 (.int .i64 0) 1 Tryz.undInts hi0 hz0 hz1 _ _ _ _ len rfl rfl (by omega) (by omega) (by rw [hz2]; omega) (by unfold maxLen; omega) (Nat.le_refl _) ?_)))
    intro w4 hpk hgr
    rw [made_ints] at hpk
    have HIN4 : Hid (w4.ownsRow w2.heap.size 3 1 (.slice (some ⟨w2.heap.size, 0, none⟩) len len) len (ints (inL (fun _ => 0) len))) := hpk
    have HB24 : Hid (Below w2.heap.size w2 w4) := ⟨hgr.os, hgr.tape, hgr.output, hgr.size, fun k hk => hgr.block k hk (by simp)⟩
    have hz4 : w2.heap.size < w4.heap.size := (hpk.lt w2.heap.size rfl).2
    have HB4 : Hid (Below w.heap.size w w4) := HB2.out.trans (HB24.out.mono HB2.out.size)
    clear hpk hgr
    go_wp2
    go_loopw [14, 16] (fun rv iv wr => ∃ (j : Nat) (SV EV : Nat → Value), iv = .int .i64 j ∧ j ≤ len ∧ RpM w4.heap.size (rpsL s fu L j) SV EV rv wr ∧ Below w4.heap.size w4 wr) (fun _ iv _ => len - (intOf iv).toNat)
    case atStart => exact ⟨0, fun _ => .slice none 0 0, fun _ => .slice none 0 0, rfl, by omega, RpM.start _ _ _ _, Below.refl _ _⟩
    case round =>
      obtain ⟨j, SV, EV, rfl, hj, hRp, hb⟩ := hrel
      obtain ⟨ar, cr, hvr, hcr⟩ := hRp.shape
      rw [rpsL_len] at hvr hcr
      subst hvr
      by_cases hlt : j < len
      · obtain ⟨g, o, rfl, hg, hcc⟩ := HCELL.out (by omega)
        have hg4 : g < w4.heap.size := Nat.lt_of_lt_of_le hg HB4.out.size
        have hcj := (hb.cell (p := ⟨g, o + j, none⟩) hg4).trans ((HB4.out.cell (p := ⟨g, o + j, none⟩) hg).trans (hcc j hlt))
        have hsj : (L[j]?.getD ByteArray.empty).size ≤ 24 := by
          have hil : j < L.length := by rw [HLEN.out]; exact hlt
          rw [List.getElem?_eq_getElem hil]; exact HOK.out.sz _ (List.getElem_mem hil)
        have HSU : Hid (rpsL s fu L (j + 1) = rpsL s fu L j ++ [rep s fu (L[j]?.getD ByteArray.empty)]) := rpsL_succ _ _ _ _
        generalize L[j]?.getD ByteArray.empty = x at *
        have HRp : Hid (RpM w4.heap.size (rpsL s fu L j) SV EV (.slice ar j cr) wr) := hRp
        have HBr : Hid (Below w4.heap.size w4 wr) := hb
        clear hRp hb hcc
        go_wp2_with fail
        refine (crun_rep s x fu _ (HG.out.below (HB4.out.trans (HBr.out.mono HB4.out.size))) hc hsj hf).mono ?_
        rintro e w5 ⟨v4, v5, rfl, h4, h5, hb5⟩
        obtain ⟨a4, c4, hv4, -, -, -⟩ := owns_shape h4
        obtain ⟨a5, c5, hv5, -, -, -⟩ := owns_shape h5
        subst hv4 hv5
        have HKZ : Hid ((rep s fu x).k = 0 → fu = 0) := rep_zero
        have H4 : Hid (w5.ownsRow w4.heap.size 34 2 (.slice a4 (rep s fu x).sts.length c4) (rep s fu x).sts.length (prs (rep s fu x).sts)) := owns_base h4 HBr.out.size
        have HRp5 : Hid (RpM w4.heap.size (rpsL s fu L j) SV EV (.slice ar j cr) w5) := HRp.out.below hb5
        have HB5 : Hid (Below w4.heap.size w4 w5) := HBr.out.trans (hb5.mono HBr.out.size)
        generalize rep s fu x = p at *
        clear h4 h5 hb5 hcj HRp
        have hbs := HB5.out.size
        have HROW : Hid (∀ o o', ((w5.alloc o).alloc o').ownsRow w4.heap.size 39 8 (.slice ar j cr) j (rpCs (rpsL s fu L j) SV EV)) := by
          intro o o'
          have := ((HRp5.out.alloc o).alloc o').row
          rw [rpsL_len] at this
          exact this
        obtain ⟨en, fa, pa, kd, sts, eds, k, top⟩ := p
        dsimp only at *
        have HSP : Hid ((k = 0 ∧ decide ((0 : Int) < (fu : Int)) = false) ∨ ((k : Int) == 0) = false) := by
          by_cases hk : k = 0
          · left; exact ⟨hk, decide_eq_false (by have := HKZ.out hk; omega)⟩
          · right; simp; omega
        clear HKZ
        rcases HSP.out with ⟨rfl, d1⟩ | d1
        · clear HSP
          obtain ⟨fv, HFV⟩ : ∃ fv : Int, Hid ((fu : Int) = fv) := ⟨_, rfl⟩
          rw [HFV.out] at d1
          rw [HFV.out]
          go_wp2_with (first | (go_at_call 9; refine (num_any _ _).mono ?_; rintro e w' ⟨rfl, rfl⟩) | (at_builtin; go_loud (refine wpList_append_lies _ rfl _ _ 31 rfl w4.heap.size 39 iR (.agg #[.int .i64 0, .int .i64 0, .int .i64 0, .int .i64 0, .slice none 0 0, .slice none 0 0, .int .i64 0, .int .i64 0]) 8 96 Tryz.undReports hiR hR0 hR1 hR2 rfl (by decide) _ _ _ rfl (HROW.out _ _) ⟨w5.heap.size + 1, 0, none⟩ 1 1 [.int .i64 (fa : Nat), .int .i64 (pa : Nat), .int .i64 (kd : Nat), .int .i64 (en : Nat), .slice a4 sts.length c4, .slice a5 eds.length c5, .int .i64 0, .int .i64 top] rfl rfl (by exact news8 _ _ _ _ _ _ _ _ _ _ _ (by simp)) (by exact ones8 _ _ _ _ _ _ _ _ _ _ _ _) (by omega) (by unfold maxLen; omega) (by omega) (by simp; omega) (w5.heap.size + 1 + 1) (by simp) ?_; intro g9 cap9 w9 hown9 hgr9' hat9 hlt9)))
          have hgr9 : ((w5.alloc (.cells #[.int .i64 (fa : Nat), .int .i64 (pa : Nat), .int .i64 (kd : Nat), .int .i64 (en : Nat), .slice a4 sts.length c4, .slice a5 eds.length c5, .int .i64 0, .int .i64 top] 39)).alloc (.cells #[.int .i64 (fa : Nat), .int .i64 (pa : Nat), .int .i64 (kd : Nat), .int .i64 (en : Nat), .slice a4 sts.length c4, .slice a5 eds.length c5, .int .i64 0, .int .i64 top] 39)).grownBy w9 (Value.slice ar j cr).ownBlock := ⟨hgr9'.os, hgr9'.tape, hgr9'.output, hgr9'.size, hgr9'.block⟩
          have HRp9 : Hid (RpM w4.heap.size (rpsL s fu L (j + 1)) (updF SV j (.slice a4 sts.length c4)) (updF EV j (.slice a5 eds.length c5)) (.slice (some ⟨g9, 0, none⟩) (j + 1) cap9) w9) := by
            have := RpM.app ((HRp5.out.alloc (.cells #[.int .i64 (fa : Nat), .int .i64 (pa : Nat), .int .i64 (kd : Nat), .int .i64 (en : Nat), .slice a4 sts.length c4, .slice a5 eds.length c5, .int .i64 0, .int .i64 top] 39)).alloc (.cells #[.int .i64 (fa : Nat), .int .i64 (pa : Nat), .int .i64 (kd : Nat), .int .i64 (en : Nat), .slice a4 sts.length c4, .slice a5 eds.length c5, .int .i64 0, .int .i64 top] 39)) hRS (p := ⟨en, fa, pa, kd, sts, eds, 0, top⟩) (v' := .slice (some ⟨g9, 0, none⟩) (j + 1) cap9) ((H4.out.alloc _).alloc _) (by rw [rpsL_len]; exact hown9) hgr9
            rw [rpsL_len, ← HSU.out] at this
            exact this
          have HB9 : Hid (Below w4.heap.size w4 w9) := below_grownR ((HB5.out.alloc HB5.out.size _).alloc (by simp; omega) _) hgr9 (by simp; omega) (fun q hq => (HRp5.out.row.lt q hq).1)
          clear hown9 hgr9' hgr9 hat9
          go_wp2
          rw [← HFV.out]
          go_roundw
          case rel => exact ⟨j + 1, _, _, by go_num, by omega, HRp9.out, HB9.out⟩
          case measure => simp [intOf]; omega
        · clear HSP
          go_wp2_with (first | (go_at_call 9; refine (num_any _ _).mono ?_; rintro e w' ⟨rfl, rfl⟩) | (at_builtin; go_loud (refine wpList_append_lies _ rfl _ _ 31 rfl w4.heap.size 39 iR (.agg #[.int .i64 0, .int .i64 0, .int .i64 0, .int .i64 0, .slice none 0 0, .slice none 0 0, .int .i64 0, .int .i64 0]) 8 96 Tryz.undReports hiR hR0 hR1 hR2 rfl (by decide) _ _ _ rfl (HROW.out _ _) ⟨w5.heap.size + 1, 0, none⟩ 1 1 [.int .i64 (fa : Nat), .int .i64 (pa : Nat), .int .i64 (kd : Nat), .int .i64 (en : Nat), .slice a4 sts.length c4, .slice a5 eds.length c5, .int .i64 (k : Nat), .int .i64 top] rfl rfl (by exact news8 _ _ _ _ _ _ _ _ _ _ _ (by simp)) (by exact ones8 _ _ _ _ _ _ _ _ _ _ _ _) (by omega) (by unfold maxLen; omega) (by omega) (by simp; omega) (w5.heap.size + 1 + 1) (by simp) ?_; intro g9 cap9 w9 hown9 hgr9' hat9 hlt9)))
          have hgr9 : ((w5.alloc (.cells #[.int .i64 (fa : Nat), .int .i64 (pa : Nat), .int .i64 (kd : Nat), .int .i64 (en : Nat), .slice a4 sts.length c4, .slice a5 eds.length c5, .int .i64 (k : Nat), .int .i64 top] 39)).alloc (.cells #[.int .i64 (fa : Nat), .int .i64 (pa : Nat), .int .i64 (kd : Nat), .int .i64 (en : Nat), .slice a4 sts.length c4, .slice a5 eds.length c5, .int .i64 (k : Nat), .int .i64 top] 39)).grownBy w9 (Value.slice ar j cr).ownBlock := ⟨hgr9'.os, hgr9'.tape, hgr9'.output, hgr9'.size, hgr9'.block⟩
          have HRp9 : Hid (RpM w4.heap.size (rpsL s fu L (j + 1)) (updF SV j (.slice a4 sts.length c4)) (updF EV j (.slice a5 eds.length c5)) (.slice (some ⟨g9, 0, none⟩) (j + 1) cap9) w9) := by
            have := RpM.app ((HRp5.out.alloc (.cells #[.int .i64 (fa : Nat), .int .i64 (pa : Nat), .int .i64 (kd : Nat), .int .i64 (en : Nat), .slice a4 sts.length c4, .slice a5 eds.length c5, .int .i64 (k : Nat), .int .i64 top] 39)).alloc (.cells #[.int .i64 (fa : Nat), .int .i64 (pa : Nat), .int .i64 (kd : Nat), .int .i64 (en : Nat), .slice a4 sts.length c4, .slice a5 eds.length c5, .int .i64 (k : Nat), .int .i64 top] 39)) hRS (p := ⟨en, fa, pa, kd, sts, eds, k, top⟩) (v' := .slice (some ⟨g9, 0, none⟩) (j + 1) cap9) ((H4.out.alloc _).alloc _) (by rw [rpsL_len]; exact hown9) hgr9
            rw [rpsL_len, ← HSU.out] at this
            exact this
          have HB9 : Hid (Below w4.heap.size w4 w9) := below_grownR ((HB5.out.alloc HB5.out.size _).alloc (by simp; omega) _) hgr9 (by simp; omega) (fun q hq => (HRp5.out.row.lt q hq).1)
          clear hown9 hgr9' hgr9 hat9
          go_wp2
          go_roundw
          case rel => exact ⟨j + 1, _, _, by go_num, by omega, HRp9.out, HB9.out⟩
          case measure => simp [intOf]; omega
      · obtain rfl : j = len := by omega
        have HRp6 : Hid (RpM w4.heap.size (rpsL s fu L j) SV EV (.slice ar j cr) wr) := hRp
        have HB46 : Hid (Below w4.heap.size w4 wr) := hb
        obtain ⟨w6, HW6⟩ : ∃ w6, Hid (wr = w6) := ⟨_, rfl⟩
        rw [HW6.out] at HRp6 HB46
        rw [HW6.out]
        have HB6 : Hid (Below w.heap.size w w6) := HB4.out.trans (HB46.out.mono HB4.out.size)
        have HBk6 : Hid (BkM 44 34 w1.heap.size l S M (.slice a1 l.length c1) w6) := (HBk2.out.below HB24.out).below HB46.out
        have HP6 : Hid (P2 w2.heap.size j (Bk.inB (kys s fu d L) l 0) w6 w6) := by
          refine P2.congr (f := fun _ => 0) ⟨⟨rfl, rfl, rfl, Nat.le_refl _, fun _ _ _ => rfl⟩, own_kept HIN4.out HB46.out⟩ ?_
          intro i _
          rw [Bk.inB_zero]
        have hz6 : w4.heap.size ≤ w6.heap.size := HB46.out.size
        clear hRp hb HW6 HBk2 HIN4
        obtain ⟨nb, HNB⟩ : ∃ nb, Hid (l.length = nb) := ⟨_, rfl⟩
        rw [HNB.out] at HBk6 HLO hll
        rw [HNB.out]
        go_wp2
        go_loopw [20] (fun kv wr => ∃ b : Nat, kv = .int .i64 b ∧ b ≤ nb ∧ P2 w2.heap.size j (Bk.inB (kys s fu d L) l b) w6 wr) (fun kv _ => nb - (intOf kv).toNat)
        case atStart => exact ⟨0, rfl, by omega, HP6.out⟩
        case round => as_aux_lemma =>
          obtain ⟨b, rfl, hb, hP⟩ := hrel
          obtain ⟨w7, HW7⟩ : ∃ w7, Hid (wr = w7) := ⟨_, rfl⟩
          rw [HW7.out] at hP
          rw [HW7.out]
          by_cases hbn : b < nb
          · have hbl : b < l.length := by rw [HNB.out]; exact hbn
            have HP : Hid (P2 w2.heap.size j (Bk.inB (kys s fu d L) l b) w6 w7) := hP
            obtain ⟨g1, c1', hv, hgb, hgl, -⟩ := HBk6.out.form (by rw [HNB.out]; omega)
            injection hv with hva hvb hvc
            subst hva
            clear hvb hvc hP HW7
            have HBkR : Hid (∀ f W, P2 w2.heap.size j f w6 W → BkM 44 34 w1.heap.size l S M (.slice (some ⟨g1, 0, none⟩) nb c1) W) := fun f W hW => hW.bk HBk6.out HLO.out
            have HBk7 := HBkR.out _ _ HP.out
            obtain ⟨qs, cs, hS, -, -, -⟩ := owns_shape (HBk7.sts b hbl)
            obtain ⟨am, cm, hM, -, -, -⟩ := owns_shape (HBk7.mem b hbl)
            have HC0 : Hid (∀ f W, P2 w2.heap.size j f w6 W → W.cell? ⟨g1, b * 4, none⟩ = some (.int .i64 ((bkAt l b).key.1 : Nat))) := fun f W hW => (HBkR.out f W hW).c0 HNB.out.symm hbl
            have HC1 : Hid (∀ f W, P2 w2.heap.size j f w6 W → W.cell? ⟨g1, b * 4 + 1, none⟩ = some (.slice qs (bkAt l b).key.2.length cs)) := fun f W hW => by rw [← hS]; exact (HBkR.out f W hW).c1 HNB.out.symm hbl
            have HC2 : Hid (∀ f W, P2 w2.heap.size j f w6 W → W.cell? ⟨g1, b * 4 + 2, none⟩ = some (.slice am (bkAt l b).mem.length cm)) := fun f W hW => by rw [← hM]; exact (HBkR.out f W hW).c2 HNB.out.symm hbl
            have HC3 : Hid (∀ f W, P2 w2.heap.size j f w6 W → W.cell? ⟨g1, b * 4 + 3, none⟩ = some (.int .i64 ((bkAt l b).rep : Nat))) := fun f W hW => (HBkR.out f W hW).c3 HNB.out.symm hbl
            have HMO : Hid (∀ f W, P2 w2.heap.size j f w6 W → W.ownsRow w1.heap.size 3 1 (.slice am (bkAt l b).mem.length cm) (bkAt l b).mem.length (ints (bkAt l b).mem)) := fun f W hW => by rw [← hM]; exact (HBkR.out f W hW).mem b hbl
            have hrm : (bkAt l b).rep ∈ (bkAt l b).mem := HPT.out.rep b hbl
            have HRISE : Hid (∀ i, 1 ≤ i → i < (bkAt l b).mem.length → (bkAt l b).mem[i - 1]?.getD 0 < (bkAt l b).mem[i]?.getD 0) := Tr.rising_of_pairwise (HPT.out.rise hbl)
            have HMI : Hid (∀ t, t < (bkAt l b).mem.length → (bkAt l b).mem[t]?.getD 0 < j ∧ kys s fu d L ((bkAt l b).mem[t]?.getD 0) = some (bkAt l b).key) := fun t ht => (HPT.out.mem_iff hbl).1 (mem_at ht)
            have HMN : Hid (∀ t, t < (bkAt l b).mem.length → zs L (bkAt l b).rep ≤ zs L ((bkAt l b).mem[t]?.getD 0)) := fun t ht => HPT.out.min b hbl _ (mem_at ht)
            have HPC : Hid (∀ t, t < (bkAt l b).mem.length → pinF (kys s fu d L) l b t ((bkAt l b).mem[t]?.getD 0) = 0) := fun t ht => pin_cur HPT.out hbl ht
            have HPS : Hid (∀ t, t < (bkAt l b).mem.length → ∀ i, updN (pinF (kys s fu d L) l b t) ((bkAt l b).mem[t]?.getD 0) (b + 1) i = pinF (kys s fu d L) l b (t + 1) i) := fun t ht i => pin_step ht i
            have HPE : Hid (∀ i, i < j → pinF (kys s fu d L) l b (bkAt l b).mem.length i = Bk.inB (kys s fu d L) l (b + 1) i) := fun i hi => pin_end HPT.out hbl i hi
            have hrl : (bkAt l b).rep < j := ((HPT.out.mem_iff hbl).1 hrm).1
            have hmpos : 0 < (bkAt l b).mem.length := List.length_pos_of_mem hrm
            have hml : (bkAt l b).mem.length ≤ j := by
              have e : (bkAt l b).mem = (List.range j).filter fun i => decide (kys s fu d L i = some (bkAt l b).key) := HPT.out.mem b hbl
              rw [e]
              have := List.length_filter_le (fun i => decide (kys s fu d L i = some (bkAt l b).key)) (List.range j)
              simpa using this
            have hsd : (bkAt l b).key.2.length ≤ d := HK6.out _ (bkAt_mem hbl)
            have HRM : Hid ((bkAt l b).rep ∈ (bkAt l b).mem) := hrm
            clear HBk7 hS hM hrm
            obtain ⟨B0, HB0⟩ : ∃ B0, Hid (bkAt l b = B0) := ⟨_, rfl⟩
            rw [HB0.out] at HC0 HC1 HC2 HC3 HMO HRISE HMI HMN HPC HPS HPE HRM hrl hmpos hml hsd
            obtain ⟨⟨bk, bs⟩, mem, rr⟩ := B0
            dsimp only at *
            obtain ⟨gr, cr', hvr, hgrb, hgrl⟩ := HRp6.out.form (by rw [rpsL_len]; omega)
            injection hvr with hvra hvrb hvrc
            subst hvra
            clear hvrb hvrc
            obtain ⟨g, o, rfl, hg, hcc⟩ := HCELL.out (by omega)
            have HIC : Hid (∀ f W, P2 w2.heap.size j f w6 W → ∀ i, i < j → W.cell? ⟨g, o + i, none⟩ = some (.string (L[i]?.getD ByteArray.empty))) := by
              intro f W hW i hi
              have hgw : g < w2.heap.size := Nat.lt_of_lt_of_le hg HB2.out.size
              rw [hW.far (Nat.lt_of_lt_of_le hg HB6.out.size) (by omega)]
              exact (HB6.out.cell (p := ⟨g, o + i, none⟩) hg).trans (hcc i hi)
            have HRC : Hid (∀ f W, P2 w2.heap.size j f w6 W → ∀ i, i < j → W.cell? ⟨gr, i * 8 + 2, none⟩ = some (.int .i64 ((rep s fu (L[i]?.getD ByteArray.empty)).kd : Nat)) ∧ W.cell? ⟨gr, i * 8 + 3, none⟩ = some (.int .i64 ((rep s fu (L[i]?.getD ByteArray.empty)).en : Nat))) := by
              intro f W hW i hi
              have := (hW.rp HRp6.out hz4).cell (rpsL_len _ _ _ _).symm (i := i) (by rw [rpsL_len]; exact hi)
              rw [rpsL_at _ _ _ _ _ hi] at this
              exact ⟨this.2.2.1, this.2.2.2.1⟩
            have HSI : Hid (∀ i, i < j → (L[i]?.getD ByteArray.empty).size ≤ 24) := by
              intro i hi
              have hil : i < L.length := by rw [HLEN.out]; exact hi
              rw [List.getElem?_eq_getElem hil]; exact HOK.out.sz _ (List.getElem_mem hil)
            clear hcc
            have hg1n : g1 ≠ w2.heap.size := by
              rcases HLO.out.v with h | h
              · cases h
              · exact fun e => h (by rw [e]; rfl)
            have hg1m : w2.heap.size ≠ g1 := Ne.symm hg1n
            have k1 := HC1.out _ _ HP.out
            have k2 := HC2.out _ _ HP.out
            have k3 := HC3.out _ _ HP.out
            go_wp2_with fail
            refine (rising_any _ _ mem _ (HMO.out _ _ HP.out) HRISE.out).mono ?_
            rintro e w8 ⟨rfl, hb8⟩
            have HP8 : Hid (P2 w2.heap.size j (Bk.inB (kys s fu d L) l b) w6 w8) := HP.out.below hb8
            clear hb8 k1 k2 k3
            have k1 := HC1.out _ _ HP8.out
            have k2 := HC2.out _ _ HP8.out
            have k3 := HC3.out _ _ HP8.out
            have d1 : ((mem.length : Int) == 0) = false := by rw [beq_eq_false_iff_ne]; omega
            have d2 : decide ((d : Int) < (bs.length : Int)) = false := decide_eq_false (by omega)
            have d3 : decide ((rr : Int) < 0) = false := decide_eq_false (by omega)
            have d4 : decide ((j : Int) ≤ (rr : Int)) = false := decide_eq_false (by omega)
            have d5 : (b : Int) < (nb : Int) := by omega
            have d6 : decide (d < bs.length) = false := decide_eq_false (by omega)
            have d7 : decide (j ≤ rr) = false := decide_eq_false (by omega)
            obtain ⟨m, HMM⟩ : ∃ m, Hid (mem.length = m) := ⟨_, rfl⟩
            rw [HMM.out] at HC2 HMO HMI HMN HPC HPS HPE hmpos hml k2 d1
            rw [HMM.out]
            go_wp2
            clear k1 k2 k3 d1 d2 d6 d7
            go_loopw [22, 23] (fun sv jv wq => ∃ t : Nat, jv = .int .i64 t ∧ t ≤ m ∧ sv = .bool (decide (rr ∈ mem.take t)) ∧ P2 w2.heap.size j (pinF (kys s fu d L) l b t) w6 wq) (fun _ jv _ => m - (intOf jv).toNat)
            case atStart => exact ⟨0, rfl, by omega, by simp, HP8.out.congr (fun i _ => (pin_zero b i).symm)⟩
            case round => as_aux_lemma =>
              obtain ⟨t, rfl, ht, rfl, hQ⟩ := hrel
              have HQ : Hid (P2 w2.heap.size j (pinF (kys s fu d L) l b t) w6 wr) := hQ
              have k0 := HC0.out _ _ hQ
              have k2 := HC2.out _ _ hQ
              have k3 := HC3.out _ _ hQ
              by_cases htm : t < m
              · obtain ⟨him, hik⟩ := HMI.out t htm
                have hmin := HMN.out t htm
                have hpc := HPC.out t htm
                obtain ⟨am', cm', hvm, -, -, hmx⟩ := owns_shape (HMO.out _ _ hQ)
                injection hvm with hvma hvmb hvmc
                subst hvma
                obtain ⟨gm, rfl, -, -, hmx⟩ := hmx (by omega)
                have km := hmx t _ (ints_get mem t (by rw [HMM.out]; exact htm))
                have HTK : Hid (rr ∈ mem.take (t + 1) ↔ rr ∈ mem.take t ∨ rr = mem[t]?.getD 0) := by
                  show _ ↔ _
                  rw [List.take_add_one, List.getElem?_eq_getElem (by rw [HMM.out]; exact htm), List.mem_append]
                  simp
                have HST : Hid (P2 w2.heap.size j (pinF (kys s fu d L) l b (t + 1)) w6 (wr.setCell ⟨w2.heap.size, mem[t]?.getD 0, none⟩ (.int .i64 ((b : Int) + 1)))) := (hQ.set (i := mem[t]?.getD 0) (b + 1)).congr (fun i _ => HPS.out t htm i)
                generalize mem[t]?.getD 0 = i at *
                obtain ⟨r2, r3⟩ := HRC.out _ _ hQ i him
                have q0 := hQ.cell him
                rw [hpc] at q0
                have qf := hQ.frz i
                have x1 := HIC.out _ _ hQ i him
                have x2 := HIC.out _ _ hQ rr hrl
                have hs1 := HSI.out i him
                have hs2 := HSI.out rr hrl
                have hzz : (L[rr]?.getD ByteArray.empty).size ≤ (L[i]?.getD ByteArray.empty).size := hmin
                obtain ⟨hen, hkk⟩ := ky_some (s := s) (inp := L[i]?.getD ByteArray.empty) (fuel := fu) (d := d) hik
                have hkd : (rep s fu (L[i]?.getD ByteArray.empty)).kd = bk := (congrArg Prod.fst hkk).symm
                rw [hen] at r3
                rw [hkd] at r2
                generalize L[i]?.getD ByteArray.empty = x at *
                generalize L[rr]?.getD ByteArray.empty = y at *
                have e1 : decide ((i : Int) < 0) = false := decide_eq_false (by omega)
                have e2 : decide ((j : Int) ≤ (i : Int)) = false := decide_eq_false (by omega)
                have e3 : decide ((x.size : Int) < (y.size : Int)) = false := decide_eq_false (by omega)
                have e4 : (i : Int) < (j : Int) := by omega
                have e5 : (t : Int) < (m : Int) := by omega
                have e6 : decide ((t : Int) < (m : Int)) = true := decide_eq_true (by omega)
                have e7 : (rr : Int) < (j : Int) := by omega
                have e8 : (b : Int) < (nb : Int) := by omega
                have e2' : decide (j ≤ i) = false := decide_eq_false (by omega)
                have e3' : decide (x.size < y.size) = false := decide_eq_false (by omega)
                clear hQ hik hmin hpc hmx hvmb hvmc hen hkk hkd hzz
                obtain ⟨σ, HSG⟩ : ∃ σ, Hid (decide (rr ∈ mem.take t) = σ) := ⟨_, rfl⟩
                rw [HSG.out]
                go_wp2
                go_quiet (fail)
                by_cases hsm : rr ∈ mem.take t
                · obtain rfl : σ = true := HSG.out.symm.trans (decide_eq_true hsm)
                  have HS2 : Hid (decide (rr ∈ mem.take (t + 1)) = true) := decide_eq_true (HTK.out.2 (Or.inl hsm))
                  clear hsm HTK HSG r2 r3 x1 x2 km k0
                  go_wp2
                  go_roundw
                  case rel => exact ⟨t + 1, by go_num, by omega, by rw [HS2.out], by first | exact HST.out | exact HST.out.drewN _ | exact (HST.out.drewN _).drewN _⟩
                  case measure => simp [intOf]; omega
                · obtain rfl : σ = false := HSG.out.symm.trans (decide_eq_false hsm)
                  by_cases hir : i = rr
                  · have HS2 : Hid (decide (rr ∈ mem.take (t + 1)) = true) := decide_eq_true (HTK.out.2 (Or.inr hir.symm))
                    have e9 : ((i : Int) == (rr : Int)) = true := by rw [hir]; simp
                    clear hsm HTK hir HSG r2 r3 x1 x2 km k0
                    go_wp2
                    go_roundw
                    case rel => exact ⟨t + 1, by go_num, by omega, by rw [HS2.out], by first | exact HST.out | exact HST.out.drewN _ | exact (HST.out.drewN _).drewN _⟩
                    case measure => simp [intOf]; omega
                  · have HS2 : Hid (decide (rr ∈ mem.take (t + 1)) = false) := decide_eq_false (fun h => (HTK.out.1 h).elim hsm (fun e => hir e.symm))
                    have e9 : ((i : Int) == (rr : Int)) = false := by rw [beq_eq_false_iff_ne]; omega
                    clear hsm HTK hir HSG r2 r3 x1 x2 km k0
                    go_wp2
                    go_roundw
                    case rel => exact ⟨t + 1, by go_num, by omega, by rw [HS2.out], by first | exact HST.out | exact HST.out.drewN _ | exact (HST.out.drewN _).drewN _⟩
                    case measure => simp [intOf]; omega
              · obtain rfl : t = m := by omega
                have HS1 : Hid (decide (rr ∈ mem.take t) = true) := by
                  show decide (rr ∈ mem.take t) = true
                  rw [List.take_of_length_le (by rw [HMM.out]; exact Nat.le_refl _)]
                  exact decide_eq_true HRM.out
                rw [HS1.out]
                have HNX : Hid (P2 w2.heap.size j (Bk.inB (kys s fu d L) l (b + 1)) w6 wr) := hQ.congr HPE.out
                clear hQ
                go_wp2
                go_roundw
                case rel => exact ⟨b + 1, by go_num, by omega, HNX.out⟩
                case measure => simp [intOf]; omega
          · obtain rfl : b = nb := by omega
            have HP : Hid (P2 w2.heap.size j (Bk.inB (kys s fu d L) l l.length) w6 w7) := by rw [HNB.out]; exact hP
            clear hP HW7
            go_wp2
            go_loopw [25] (fun iv wq => ∃ i : Nat, iv = .int .i64 i ∧ i ≤ j ∧ P2 w2.heap.size j (Bk.inB (kys s fu d L) l l.length) w6 wq) (fun iv _ => j - (intOf iv).toNat)
            case atStart => exact ⟨0, rfl, by omega, HP.out⟩
            case round => as_aux_lemma =>
              obtain ⟨i, rfl, hi, hQ⟩ := hrel
              obtain ⟨w9, HW9⟩ : ∃ w9, Hid (wr = w9) := ⟨_, rfl⟩
              rw [HW9.out] at hQ
              rw [HW9.out]
              clear HW9
              by_cases hij : i < j
              · obtain ⟨gr, cr', hvr, hgrb, hgrl⟩ := HRp6.out.form (by rw [rpsL_len]; omega)
                injection hvr with hvra hvrb hvrc
                subst hvra
                clear hvrb hvrc
                have HRC : Hid (∀ f W, P2 w2.heap.size j f w6 W → ∀ i, i < j → (W.cell? ⟨gr, i * 8, none⟩ = some (.int .i64 ((rep s fu (L[i]?.getD ByteArray.empty)).fa : Nat)) ∧ W.cell? ⟨gr, i * 8 + 1, none⟩ = some (.int .i64 ((rep s fu (L[i]?.getD ByteArray.empty)).pa : Nat)) ∧ W.cell? ⟨gr, i * 8 + 2, none⟩ = some (.int .i64 ((rep s fu (L[i]?.getD ByteArray.empty)).kd : Nat)) ∧ W.cell? ⟨gr, i * 8 + 3, none⟩ = some (.int .i64 ((rep s fu (L[i]?.getD ByteArray.empty)).en : Nat)) ∧ W.cell? ⟨gr, i * 8 + 4, none⟩ = some (SV i) ∧ W.cell? ⟨gr, i * 8 + 5, none⟩ = some (EV i) ∧ W.cell? ⟨gr, i * 8 + 6, none⟩ = some (.int .i64 ((rep s fu (L[i]?.getD ByteArray.empty)).k : Nat)) ∧ W.cell? ⟨gr, i * 8 + 7, none⟩ = some (.int .i64 (rep s fu (L[i]?.getD ByteArray.empty)).top)) ∧ W.ownsRow w4.heap.size 34 2 (SV i) (rep s fu (L[i]?.getD ByteArray.empty)).sts.length (prs (rep s fu (L[i]?.getD ByteArray.empty)).sts)) := by
                  intro f W hW i hi
                  have h1 := (hW.rp HRp6.out hz4).cell (rpsL_len _ _ _ _).symm (i := i) (by rw [rpsL_len]; exact hi)
                  have h2 := (hW.rp HRp6.out hz4).sts i (by rw [rpsL_len]; exact hi)
                  rw [rpsL_at _ _ _ _ _ hi] at h1 h2
                  exact ⟨h1, h2⟩
                have HEV : Hid (∀ i, i < j → ∃ a n c, EV i = .slice a n c) := fun i hi => HRp6.out.eds i (by rw [rpsL_len]; exact hi)
                have HST8 : Hid (∀ i, i < j → (rep s fu (L[i]?.getD ByteArray.empty)).sts.length ≤ 8) := by
                  intro i hi
                  have hil : i < L.length := by rw [HLEN.out]; exact hi
                  refine rep_sts hc ?_ hf
                  rw [List.getElem?_eq_getElem hil]; exact HOK.out.sz _ (List.getElem_mem hil)
                have HSOM : Hid (∀ i, i < j → (Bk.inB (kys s fu d L) l l.length i ≠ 0 ↔ (rep s fu (L[i]?.getD ByteArray.empty)).en = 1)) := by
                  intro i hi
                  rw [HPT.out.some_iff hi]
                  show kyR (rep s fu (L[i]?.getD ByteArray.empty)) d ≠ none ↔ _
                  unfold kyR
                  split
                  · rename_i h; simp [h]
                  · rename_i h; simp [h]
                have HSAM : Hid (∀ i q, i < j → q < j → Bk.inB (kys s fu d L) l l.length i ≠ 0 → Bk.inB (kys s fu d L) l l.length q ≠ 0 → (Bk.inB (kys s fu d L) l l.length i = Bk.inB (kys s fu d L) l l.length q ↔ (rep s fu (L[i]?.getD ByteArray.empty)).kd = (rep s fu (L[q]?.getD ByteArray.empty)).kd ∧ (rep s fu (L[i]?.getD ByteArray.empty)).sts.take d = (rep s fu (L[q]?.getD ByteArray.empty)).sts.take d)) := by
                  intro i q hi hq hni hnq
                  have ei := (HSOM.out i hi).1 hni
                  have eq := (HSOM.out q hq).1 hnq
                  have ki : kys s fu d L i = some ((rep s fu (L[i]?.getD ByteArray.empty)).kd, (rep s fu (L[i]?.getD ByteArray.empty)).sts.take d) := by
                    show kyR _ d = _
                    unfold kyR
                    rw [if_pos ei]
                  have kq : kys s fu d L q = some ((rep s fu (L[q]?.getD ByteArray.empty)).kd, (rep s fu (L[q]?.getD ByteArray.empty)).sts.take d) := by
                    show kyR _ d = _
                    unfold kyR
                    rw [if_pos eq]
                  rw [HPT.out.same_iff hi hq ki kq, Prod.mk.injEq]
                obtain ⟨⟨-, -, -, r3, -, -, -, -⟩, -⟩ := HRC.out _ _ hQ i hij
                have q0 := hQ.cell hij
                have HQ : Hid (P2 w2.heap.size j (Bk.inB (kys s fu d L) l l.length) w6 w9) := hQ
                have HSI : Hid (∃ β : Bool, (((rep s fu (L[i]?.getD ByteArray.empty)).en : Int) == 1) = β ∧ ((Bk.inB (kys s fu d L) l l.length i : Int) != 0) = β ∧ ((Bk.inB (kys s fu d L) l l.length i : Int) == 0) = !β ∧ (β = true → Bk.inB (kys s fu d L) l l.length i ≠ 0)) := by
                  have := HSOM.out i hij
                  by_cases h0 : Bk.inB (kys s fu d L) l l.length i = 0
                  · refine ⟨false, ?_, by simp [h0], by simp [h0], fun h => by cases h⟩
                    rw [beq_eq_false_iff_ne]
                    intro e
                    exact this.2 (by omega) h0
                  · refine ⟨true, ?_, by simp [h0], by simp [h0], fun _ => h0⟩
                    rw [beq_iff_eq, this.1 h0]
                    rfl
                obtain ⟨ni, HNI⟩ : ∃ ni, Hid (Bk.inB (kys s fu d L) l l.length i = ni) := ⟨_, rfl⟩
                obtain ⟨pe, HPE0⟩ : ∃ pe, Hid ((rep s fu (L[i]?.getD ByteArray.empty)).en = pe) := ⟨_, rfl⟩
                rw [HNI.out, HPE0.out] at HSI
                rw [HNI.out] at q0
                rw [HPE0.out] at r3
                obtain ⟨β, b1, b2, b3, b4⟩ := HSI.out
                have e1 : (i : Int) < (j : Int) := by omega
                have e2 : decide ((i : Int) < (j : Int)) = true := decide_eq_true e1
                clear HSI hQ
                cases β with
                | false =>
                  have hn0 : ni = 0 := by simpa using b3
                  subst hn0
                  clear b2 b3 b4
                  go_wp2
                  go_quiet (fail)
                  go_wp2
                  clear q0 r3 b1
                  go_loopw [26] (fun jv wz => ∃ t : Nat, jv = .int .i64 t ∧ t ≤ i ∧ P2 w2.heap.size j (Bk.inB (kys s fu d L) l l.length) w6 wz) (fun jv _ => i - (intOf jv).toNat)
                  case atStart => exact ⟨0, rfl, by omega, by first | exact HQ.out | exact HQ.out.drewN _ | exact (HQ.out.drewN _).drewN _⟩
                  case round => as_aux_lemma =>
                    obtain ⟨t, rfl, ht, hZ⟩ := hrel
                    have q0 := hZ.cell hij
                    rw [HNI.out] at q0
                    have HZ : Hid (P2 w2.heap.size j (Bk.inB (kys s fu d L) l l.length) w6 wr) := hZ
                    clear hZ
                    by_cases hti : t < i
                    · have e3 : decide ((t : Int) < (i : Int)) = true := decide_eq_true (by omega)
                      go_wp2
                      go_quiet (fail)
                      go_wp2
                      go_roundw
                      case rel => exact ⟨t + 1, by go_num, by omega, by first | exact HZ.out | exact HZ.out.drewN _ | exact (HZ.out.drewN _).drewN _⟩
                      case measure => simp [intOf]; omega
                    · obtain rfl : t = i := by omega
                      clear q0
                      go_wp2
                      go_roundw
                      case rel => exact ⟨t + 1, by go_num, by omega, HZ.out⟩
                      case measure => simp [intOf]; omega
                | true =>
                  go_wp2
                  go_quiet (fail)
                  go_wp2
                  clear q0 r3 b1
                  go_loopw [26] (fun jv wz => ∃ t : Nat, jv = .int .i64 t ∧ t ≤ i ∧ P2 w2.heap.size j (Bk.inB (kys s fu d L) l l.length) w6 wz) (fun jv _ => i - (intOf jv).toNat)
                  case atStart => exact ⟨0, rfl, by omega, by first | exact HQ.out | exact HQ.out.drewN _ | exact (HQ.out.drewN _).drewN _⟩
                  case round => as_aux_lemma =>
                    obtain ⟨t, rfl, ht, hZ⟩ := hrel
                    have q0 := hZ.cell hij
                    rw [HNI.out] at q0
                    have HZ : Hid (P2 w2.heap.size j (Bk.inB (kys s fu d L) l l.length) w6 wr) := hZ
                    by_cases hti : t < i
                    · have htj : t < j := by omega
                      have q1 := hZ.cell htj
                      have e3 : decide ((t : Int) < (i : Int)) = true := decide_eq_true (by omega)
                      have e4 : (t : Int) < (j : Int) := by omega
                      have HSM := HSAM.out i t hij htj (by rw [HNI.out]; exact b4 (by first | rfl | trivial))
                      obtain ⟨nt, HNT⟩ : ∃ nt, Hid (Bk.inB (kys s fu d L) l l.length t = nt) := ⟨_, rfl⟩
                      rw [HNT.out] at q1
                      rw [HNT.out, HNI.out] at HSM
                      by_cases hn0 : nt = 0
                      · subst hn0
                        clear HSM hZ
                        go_wp2
                        go_quiet (fail)
                        go_wp2
                        go_roundw
                        case rel => exact ⟨t + 1, by go_num, by omega, by first | exact HZ.out | exact HZ.out.drewN _ | exact (HZ.out.drewN _).drewN _⟩
                        case measure => simp [intOf]; omega
                      · as_aux_lemma =>
                        have n1 : ((nt : Int) != 0) = true := by simp [hn0]
                        obtain ⟨⟨x0, x1, x2, x3, x4, x5, x6, x7⟩, hsi⟩ := HRC.out _ _ hZ i hij
                        obtain ⟨⟨y0, y1, y2, y3, y4, y5, y6, y7⟩, hst⟩ := HRC.out _ _ hZ t htj
                        obtain ⟨ae, ne, ce, hev⟩ := HEV.out i hij
                        obtain ⟨af, nf, cf, hfv⟩ := HEV.out t htj
                        obtain ⟨as1, cs1, hsv, -, -, -⟩ := owns_shape hsi
                        obtain ⟨as2, cs2, htv, -, -, -⟩ := owns_shape hst
                        have h8i := HST8.out i hij
                        have h8t := HST8.out t htj
                        rw [hsv] at x4 hsi
                        rw [htv] at y4 hst
                        rw [hev] at x5
                        rw [hfv] at y5
                        have HSM2 : Hid (((ni : Int) == (nt : Int)) = decide ((rep s fu (L[i]?.getD ByteArray.empty)).kd = (rep s fu (L[t]?.getD ByteArray.empty)).kd ∧ (rep s fu (L[i]?.getD ByteArray.empty)).sts.take d = (rep s fu (L[t]?.getD ByteArray.empty)).sts.take d)) := by
                          show _ = _
                          have := HSM hn0
                          by_cases h : ni = nt
                          · rw [decide_eq_true (this.1 h), h]; simp
                          · rw [decide_eq_false (fun h2 => h (this.2 h2))]
                            rw [beq_eq_false_iff_ne]
                            omega
                        have HSI1 : Hid (wr.ownsRow w4.heap.size 34 2 (.slice as1 (rep s fu (L[i]?.getD ByteArray.empty)).sts.length cs1) (rep s fu (L[i]?.getD ByteArray.empty)).sts.length (prs (rep s fu (L[i]?.getD ByteArray.empty)).sts)) := hsi
                        have HST1 : Hid (wr.ownsRow w4.heap.size 34 2 (.slice as2 (rep s fu (L[t]?.getD ByteArray.empty)).sts.length cs2) (rep s fu (L[t]?.getD ByteArray.empty)).sts.length (prs (rep s fu (L[t]?.getD ByteArray.empty)).sts)) := hst
                        generalize rep s fu (L[i]?.getD ByteArray.empty) = pi at *
                        generalize rep s fu (L[t]?.getD ByteArray.empty) = pt at *
                        clear hsi hst hsv htv hev hfv HSM
                        obtain ⟨DD, HDD⟩ : ∃ DD, Hid (decide (pi.kd = pt.kd ∧ pi.sts.take d = pt.sts.take d) = DD) := ⟨_, rfl⟩
                        rw [HDD.out] at HSM2
                        have n2 := HSM2.out
                        have hgw : gr < wr.heap.size := Nat.lt_of_lt_of_le hgrl hZ.gr.size
                        have hgi : w2.heap.size < wr.heap.size := (hZ.own.lt _ rfl).2
                        clear hZ
                        go_wp2
                        go_region_held (fun W => W.cell? ⟨w2.heap.size, i, none⟩ = some (.int .i64 (ni : Nat)) ∧ W.cell? ⟨w2.heap.size, t, none⟩ = some (.int .i64 (nt : Nat)) ∧ W.cell? ⟨gr, i * 8, none⟩ = some (.int .i64 (pi.fa : Nat)) ∧ W.cell? ⟨gr, i * 8 + 1, none⟩ = some (.int .i64 (pi.pa : Nat)) ∧ W.cell? ⟨gr, i * 8 + 2, none⟩ = some (.int .i64 (pi.kd : Nat)) ∧ W.cell? ⟨gr, i * 8 + 3, none⟩ = some (.int .i64 (pi.en : Nat)) ∧ W.cell? ⟨gr, i * 8 + 4, none⟩ = some (.slice as1 pi.sts.length cs1) ∧ W.cell? ⟨gr, i * 8 + 5, none⟩ = some (.slice ae ne ce) ∧ W.cell? ⟨gr, i * 8 + 6, none⟩ = some (.int .i64 (pi.k : Nat)) ∧ W.cell? ⟨gr, i * 8 + 7, none⟩ = some (.int .i64 pi.top) ∧ W.cell? ⟨gr, t * 8, none⟩ = some (.int .i64 (pt.fa : Nat)) ∧ W.cell? ⟨gr, t * 8 + 1, none⟩ = some (.int .i64 (pt.pa : Nat)) ∧ W.cell? ⟨gr, t * 8 + 2, none⟩ = some (.int .i64 (pt.kd : Nat)) ∧ W.cell? ⟨gr, t * 8 + 3, none⟩ = some (.int .i64 (pt.en : Nat)) ∧ W.cell? ⟨gr, t * 8 + 4, none⟩ = some (.slice as2 pt.sts.length cs2) ∧ W.cell? ⟨gr, t * 8 + 5, none⟩ = some (.slice af nf cf) ∧ W.cell? ⟨gr, t * 8 + 6, none⟩ = some (.int .i64 (pt.k : Nat)) ∧ W.cell? ⟨gr, t * 8 + 7, none⟩ = some (.int .i64 pt.top)) (first | exact ⟨q0, q1, x0, x1, x2, x3, x4, x5, x6, x7, y0, y1, y2, y3, y4, y5, y6, y7⟩ | exact ⟨(hb10'.cell (p := ⟨w2.heap.size, i, none⟩) hgi).trans q0, (hb10'.cell (p := ⟨w2.heap.size, t, none⟩) hgi).trans q1, (hb10'.cell (p := ⟨gr, i * 8, none⟩) hgw).trans x0, (hb10'.cell (p := ⟨gr, i * 8 + 1, none⟩) hgw).trans x1, (hb10'.cell (p := ⟨gr, i * 8 + 2, none⟩) hgw).trans x2, (hb10'.cell (p := ⟨gr, i * 8 + 3, none⟩) hgw).trans x3, (hb10'.cell (p := ⟨gr, i * 8 + 4, none⟩) hgw).trans x4, (hb10'.cell (p := ⟨gr, i * 8 + 5, none⟩) hgw).trans x5, (hb10'.cell (p := ⟨gr, i * 8 + 6, none⟩) hgw).trans x6, (hb10'.cell (p := ⟨gr, i * 8 + 7, none⟩) hgw).trans x7, (hb10'.cell (p := ⟨gr, t * 8, none⟩) hgw).trans y0, (hb10'.cell (p := ⟨gr, t * 8 + 1, none⟩) hgw).trans y1, (hb10'.cell (p := ⟨gr, t * 8 + 2, none⟩) hgw).trans y2, (hb10'.cell (p := ⟨gr, t * 8 + 3, none⟩) hgw).trans y3, (hb10'.cell (p := ⟨gr, t * 8 + 4, none⟩) hgw).trans y4, (hb10'.cell (p := ⟨gr, t * 8 + 5, none⟩) hgw).trans y5, (hb10'.cell (p := ⟨gr, t * 8 + 6, none⟩) hgw).trans y6, (hb10'.cell (p := ⟨gr, t * 8 + 7, none⟩) hgw).trans y7⟩)
                          (first | (go_at_call 13; go_loud (refine (lsame_any w4.heap.size w4.heap.size pi pt d _ _ _ _ _ h8i h8t hd HSI1.out.drew HST1.out.drew ⟨_, _, _, rfl⟩ ⟨_, _, _, rfl⟩).mono ?_; rintro e w10 ⟨rfl, hb10⟩; rw [HDD.out]; have hb10' : Below wr.heap.size wr w10 := ⟨hb10.os, hb10.tape, hb10.output, hb10.size, hb10.block⟩)))
                        all_goals
                          have HZ2 : Hid (P2 w2.heap.size j (Bk.inB (kys s fu d L) l l.length) w6 w10) := HZ.out.below hb10'
                          clear hb10 hb10' q0 q1 x0 x1 x2 x3 x4 x5 x6 x7 y0 y1 y2 y3 y4 y5 y6 y7
                          go_wp2
                          go_roundw
                          case rel => exact ⟨t + 1, by go_num, by omega, HZ2.out⟩
                          case measure => simp [intOf]; omega
                    · obtain rfl : t = i := by omega
                      clear q0 hZ
                      go_wp2
                      go_roundw
                      case rel => exact ⟨t + 1, by go_num, by omega, HZ.out⟩
                      case measure => simp [intOf]; omega
              · obtain rfl : i = j := by omega
                have HBF : Hid (Below w.heap.size w w9) := by
                  have hgr := hQ.gr
                  have hz := HB6.out.size
                  refine ⟨hgr.os.trans HB6.out.os, hgr.tape.trans HB6.out.tape, hgr.output.trans HB6.out.output, Nat.le_trans hz hgr.size, fun k hk => (hgr.block k (by omega) ?_).trans (HB6.out.block k hk)⟩
                  intro e
                  have h1 := Option.some.inj e
                  have h2 := HB2.out.size
                  omega
                clear hQ
                by_cases hj0 : 0 < i
                · have e1 : decide ((0 : Int) < (i : Int)) = true := decide_eq_true (by omega)
                  go_wp2
                  go_ret
                  exact ⟨by simp [*], HBF.out⟩
                · obtain rfl : i = 0 := by omega
                  obtain rfl : b = 0 := by omega
                  go_wp2
                  go_ret
                  exact ⟨by first | rfl | simp [*], HBF.out⟩
end Go.Proofs.YtbmaiioecnmopaaGreatDoor
