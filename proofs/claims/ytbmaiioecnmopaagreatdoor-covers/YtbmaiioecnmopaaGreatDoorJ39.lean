/-
  LawI, PureW, CoA, CoB: THESE TEXTS, JOINED. By the verifier of the loop 'triage'.
-/
import Derived.Test.YtbmaiioecnmopaaGreatDoorJ37
import Derived.Test.YtbmaiioecnmopaaGreatDoorJ38
import Derived.Test.YtbmaiioecnmopaaGreatDoorLawE
import Derived.Deep.AppendLies
/-
  THE LAWS Parts, Covers: alive. By the verifier of the loop 'triage'.
-/
namespace Go.Proofs.YtbmaiioecnmopaaGreatDoor
open Go.RowKit

theorem alive_b0 : (askP ⟨#[1, 1, 17]⟩ 9 1 [⟨#[97]⟩]).1 = 0 := by decide
theorem alive_b1 : (Bk.bks (kys ⟨#[1, 1, 17]⟩ 9 1 [⟨#[97]⟩]) (zs [⟨#[97]⟩]) 1).length = 1 := by decide
theorem alive_t0 : (askP ⟨#[1, 3, 10, 2, 0]⟩ 9 0 [⟨#[97]⟩]).1 = 0 := by decide
theorem alive_t1 : (Tr.ans (edg ⟨#[1, 3, 10, 2, 0]⟩ 9 [⟨#[97]⟩]) (lenI [⟨#[97]⟩]) 1).length = 1 := by decide
theorem alive_r : (outP ⟨#[1, 1, 17]⟩ ⟨#[]⟩ 9).1.kd = 5 := by decide

set_option maxHeartbeats 3200000 in
set_option maxRecDepth 100000 in
theorem alive_any (w : World) (hG : Glob w) : Calls Tryz.prog 7 #[] w fun e w' => e = .returned (.bool true) ∧ Below w.heap.size w w' := by
  have HG : Hid (Glob w) := hG
  clear hG
  go_enter Tryz.func7, Tryz.ntmps7
  go_wp2_with fail
  refine (crun_any ⟨#[1, 1, 17]⟩ ⟨#[]⟩ 9 _ HG.out).mono ?_
  rintro e w1 ⟨v, rfl, ha, hb1⟩
  obtain ⟨t1, t2⟩ := out_trap
  have t3 := alive_r
  generalize outP ⟨#[1, 1, 17]⟩ ⟨#[]⟩ 9 = o at *
  obtain ⟨⟨en, fa, pa, kd, sts, eds, k, top⟩, oe, op⟩ := o
  dsimp only at *
  subst t1 t2 t3
  obtain ⟨v4, v5, hv, h4, h5⟩ := ha
  dsimp only at hv h4 h5
  obtain ⟨a4, c4, hv4, -, -, -⟩ := owns_shape h4
  obtain ⟨a5, c5, hv5, -, -, -⟩ := owns_shape h5
  subst hv4 hv5
  subst hv
  have HB1 : Hid (Below w.heap.size w w1) := hb1
  clear h4 h5 hb1
  have HI1 : Hid (∀ (W : World) o, Ins [⟨#[97]⟩] (.slice (some ⟨W.heap.size + 1, 0, none⟩) 1 1) ((W.alloc o).alloc (.cells #[.string ⟨#[97]⟩] 9))) := by
    intro W o
    have := ins_one ⟨#[97]⟩ (W.alloc o) 9 (by unfold maxLen; decide)
    rwa [World.size_alloc] at this
  have HI2 : Hid (∀ (W : World), Ins [⟨#[97]⟩] (.slice (some ⟨W.heap.size, 0, none⟩) 1 1) (W.alloc (.cells #[.string ⟨#[97]⟩] 9))) := by
    intro W
    exact ins_one ⟨#[97]⟩ W 9 (by unfold maxLen; decide)
  have HAL : Hid (∀ (W : World) o, Below W.heap.size W (W.alloc o)) := fun W o => (Below.refl _ _).alloc (Nat.le_refl _) _
  go_wp2_with fail
  refine (codeBuckets_any ⟨#[1, 1, 17]⟩ 9 1 [⟨#[97]⟩] _ _ (((HG.out.below HB1.out).below (HAL.out _ _)).below (HAL.out _ _)) (HI1.out _ _)).mono ?_
  rintro e w2 ⟨hb2, (⟨hne, -⟩ | ⟨-, S, M, v2, rfl, hbk⟩)⟩
  · exact absurd alive_b0 hne
  have hv2 := hbk.shape
  have hlen : (Bk.bks (kys ⟨#[1, 1, 17]⟩ (9 : Int).toNat (1 : Int).toNat [⟨#[97]⟩]) (zs [⟨#[97]⟩]) ([⟨#[97]⟩] : List ByteArray).length).length = 1 := alive_b1
  rw [hlen] at hv2
  obtain ⟨a6, c6, rfl, -⟩ := hv2
  have hbk2 := (two_new hb2).1
  have HB2 : Hid (Below w.heap.size w w2) := HB1.out.trans ((below_two hb2).mono HB1.out.size)
  have HRB : Hid _ := hbk2
  have hs2 : w1.heap.size < w2.heap.size := by have := hb2.size; simp at this; omega
  clear hbk hb2 hlen hbk2
  go_wp2_with fail
  refine (codeTrim_any ⟨#[1, 3, 10, 2, 0]⟩ 9 [⟨#[97]⟩] _ _ ((HG.out.below HB2.out).below (HAL.out _ _)) (HI2.out _)).mono ?_
  rintro e w3 ⟨hb3, (⟨hne, -⟩ | ⟨-, v3, rfl, h3⟩)⟩
  · exact absurd alive_t0 hne
  obtain ⟨a7, c7, hv7, -, -, -⟩ := owns_shape h3
  have hlen : (Tr.ans (edg ⟨#[1, 3, 10, 2, 0]⟩ (9 : Int).toNat [⟨#[97]⟩]) (lenI [⟨#[97]⟩]) ([⟨#[97]⟩] : List ByteArray).length).length = 1 := alive_t1
  rw [hlen] at hv7
  subst hv7
  have hb3' : Below w2.heap.size w2 w3 := below_new hb3
  have HB3 : Hid (Below w.heap.size w w3) := HB2.out.trans (hb3'.mono HB2.out.size)
  have hrb := (hb3'.block w1.heap.size hs2).trans HRB.out
  have r2 : w3.cell? ⟨w1.heap.size, 2, none⟩ = some (.int .i64 5) := rcell_of hrb rfl
  have r3 : w3.cell? ⟨w1.heap.size, 3, none⟩ = some (.int .i64 1) := rcell_of hrb rfl
  clear h3 hb3 hb3' hlen hrb
  go_wp2_with (go_at_call 9; refine (num_any _ _).mono ?_; rintro e w' ⟨rfl, rfl⟩)
  go_ret
  exact ⟨by first | done | rfl | simp, HB3.out⟩
end Go.Proofs.YtbmaiioecnmopaaGreatDoor

/-
  THE PLAIN MATHEMATICS of picking: those that are picked reach all that all reach. By the verifier of the loop 'triage'.
-/
namespace Go.Proofs.YtbmaiioecnmopaaGreatDoor
namespace Tr

theorem rising_of_pairwise {l : List Nat} (h : l.Pairwise (· < ·)) : ∀ i, 1 ≤ i → i < l.length → l[i - 1]?.getD 0 < l[i]?.getD 0 := by
  intro i h1 h2
  rw [List.getElem?_eq_getElem (by omega), List.getElem?_eq_getElem h2]
  exact List.pairwise_iff_getElem.1 h (i - 1) i (by omega) h2 (by omega)
theorem range_filter_rising (n : Nat) (p : Nat → Bool) : ((List.range n).filter p).Pairwise (· < ·) := List.Pairwise.filter p List.pairwise_lt_range
theorem ans_rising (E : Nat → List Nat) (Z : Nat → Nat) (n : Nat) : ∀ i, 1 ≤ i → i < (ans E Z n).length → (ans E Z n)[i - 1]?.getD 0 < (ans E Z n)[i]?.getD 0 := rising_of_pairwise (range_filter_rising n _)
theorem ans_mem {E : Nat → List Nat} {Z : Nat → Nat} {n j : Nat} : j ∈ ans E Z n ↔ j < n ∧ j ∈ (picks E Z n).2 := by
  unfold ans
  rw [List.mem_filter, List.mem_range]
  simp
theorem ans_lt {E : Nat → List Nat} {Z : Nat → Nat} {n j : Nat} (h : j ∈ ans E Z n) : j < n := (ans_mem.1 h).1
theorem ans_pos {E : Nat → List Nat} {Z : Nat → Nat} {n j : Nat} (h : j ∈ ans E Z n) : E j ≠ [] := (picks_pk E Z n).1.pos j (ans_mem.1 h).2
theorem ans_len (E : Nat → List Nat) (Z : Nat → Nat) (n : Nat) : (ans E Z n).length ≤ n := by
  unfold ans
  have := List.length_filter_le (fun i => (picks E Z n).2.contains i) (List.range n)
  simpa using this
/-- all is reached. -/
theorem ans_all {E : Nat → List Nat} {Z : Nat → Nat} {n i : Nat} (hi : i < n) : ∀ x, x ∈ E i → x ∈ (ans E Z n).flatMap E := by
  intro x hx
  obtain ⟨hp, hs⟩ := picks_pk E Z n
  have h0 := sel_none hs i hi
  have hm : x ∈ (picks E Z n).1 := by
    unfold fr at h0
    rw [List.filter_eq_nil_iff] at h0
    have := h0 x hx
    simpa using this
  rw [hp.all] at hm
  obtain ⟨j, hj, hxj⟩ := List.mem_flatMap.1 hm
  exact List.mem_flatMap.2 ⟨j, ans_mem.2 ⟨hp.lt j hj, hj⟩, hxj⟩
end Tr
end Go.Proofs.YtbmaiioecnmopaaGreatDoor

/-
  THE LAW Covers: its walk. By the verifier of the loop 'triage'.
-/
namespace Go.Proofs.YtbmaiioecnmopaaGreatDoor
open Go.RowKit

theorem chk_pos (s : ByteArray) : 0 ≤ (Im.chk s).1 := by
  unfold Im.chk
  repeat' split
  all_goals (dsimp only; decide)
theorem askP_pos {s : ByteArray} {fuel depth : Int} {L : List ByteArray} (h : (askP s fuel depth L).1 ≠ 0) : 0 < (askP s fuel depth L).1 ∧ ((Im.chk s).1 = 0 ∨ (askP s fuel depth L).1 = (Im.chk s).1) := by
  by_cases hc : (Im.chk s).1 = 0
  · refine ⟨?_, Or.inl hc⟩
    by_cases hb : badN fuel depth L.length
    · rw [askP_arg hc hb]; decide
    · cases hi : lng L 0 with
      | none => rw [askP_ok hc hb hi] at h; exact absurd rfl h
      | some i => rw [askP_lng hc hb hi]; exact Int.one_pos
  · rw [askP_chk hc]
    refine ⟨?_, Or.inr rfl⟩
    have := chk_pos s
    show 0 < (Im.chk s).1
    omega
/-- the code's Run of an image that is one, with an input that is none too long. -/
theorem crun_rep (s inp : ByteArray) (fuel : Nat) (w : World) (hG : Glob w) (hc : Im.chk s = (0, 0)) (hi : inp.size ≤ 24) (hf : fuel ≤ 2000) :
    Calls Tryz.prog 11 #[.string s, .string inp, .int .i64 fuel] w fun e w' => ∃ v4 v5, e = .returned (.tuple #[.agg #[.int .i64 ((rep s fuel inp).fa : Nat), .int .i64 ((rep s fuel inp).pa : Nat), .int .i64 ((rep s fuel inp).kd : Nat), .int .i64 ((rep s fuel inp).en : Nat), v4, v5, .int .i64 ((rep s fuel inp).k : Nat), .int .i64 (rep s fuel inp).top], .int .i64 0, .int .i64 0]) ∧
      w'.ownsRow w.heap.size 34 2 v4 (rep s fuel inp).sts.length (prs (rep s fuel inp).sts) ∧ w'.ownsRow w.heap.size 3 1 v5 (rep s fuel inp).eds.length (ints (rep s fuel inp).eds) ∧ Below w.heap.size w w' := by
  refine (crun_any s inp fuel w hG).mono ?_
  rintro e w' ⟨v, rfl, hr, hb⟩
  rw [outP_rep hc hi hf] at hr ⊢
  obtain ⟨v4, v5, rfl, h4, h5⟩ := hr
  exact ⟨v4, v5, rfl, h4, h5, hb⟩
theorem flat_take (q : List Nat) (E : Nat → List Nat) (j : Nat) (h : j < q.length) : (q.take (j + 1)).flatMap E = (q.take j).flatMap E ++ E (q[j]?.getD 0) := by
  rw [List.take_add_one, List.getElem?_eq_getElem h, List.flatMap_append]
  simp
theorem flatE_len (q : List Nat) (E : Nat → List Nat) (hE : ∀ j ∈ q, (E j).length ≤ 400) : (q.flatMap E).length ≤ 400 * q.length := by
  induction q with
  | nil => simp
  | cons x q ih =>
    have h1 := hE x (by simp)
    have h2 := ih (fun j hj => hE j (by simp [hj]))
    rw [List.flatMap_cons, List.length_append, List.length_cons]
    omega
theorem rep_eds (s inp : ByteArray) (fuel : Nat) : (rep s fuel inp).eds.length ≤ 400 := by
  show (Im.el _).length ≤ 400
  unfold Im.el
  have := List.length_filter_le (fun i => (Im.runP s inp fuel (Im.st0 s) 0).2.2.1.edg i) (List.range 400)
  simpa using this
theorem rep_mor (s inp : ByteArray) (fuel : Nat) : Mor (rep s fuel inp) (rep s fuel inp) fuel := mor_of s inp fuel fuel (Nat.le_refl _)
end Go.Proofs.YtbmaiioecnmopaaGreatDoor

/-
  THE LAW Covers: its walk. By the verifier of the loop 'triage'.
-/
namespace Go.Proofs.YtbmaiioecnmopaaGreatDoor
open Go.RowKit

set_option maxHeartbeats 6400000 in
set_option maxRecDepth 100000 in
theorem covers_walk (s : ByteArray) (fuel : Int) (L : List ByteArray) (v : Value) (w : World) (hG : Glob w) (hI : Ins L v w) :
    Calls Tryz.prog 6 #[.string s, .int .i64 fuel, v] w fun e w' => e = .returned (.bool true) ∧ Below w.heap.size w w' := by
  obtain ⟨i0, hi0, hz0, hz1, hz2⟩ := info_parts Tryz.infoInt
  have HG : Hid (Glob w) := hG
  have HI : Hid (Ins L v w) := hI
  obtain ⟨a, cap, rfl, hcap, hmax, hcell, -⟩ := hI
  unfold maxLen at hmax
  obtain ⟨len, HLEN⟩ : ∃ len, Hid (L.length = len) := ⟨_, rfl⟩
  rw [HLEN.out] at HI hcap hcell
  rw [HLEN.out]
  have HCELL : Hid (0 < len → ∃ g o, a = some ⟨g, o, none⟩ ∧ g < w.heap.size ∧ ∀ i, i < len → w.cell? ⟨g, o + i, none⟩ = some (.string (L[i]?.getD ByteArray.empty))) := hcell
  clear hG hcell
  go_enter Tryz.func6, Tryz.ntmps6
  go_wp2_with fail
  refine (alive_any _ HG.out).mono ?_
  rintro e w1 ⟨rfl, hb1⟩
  have HB1 : Hid (Below w.heap.size w w1) := hb1
  clear hb1
  go_wp2_with fail
  refine (codeTrim_any s fuel L _ _ (HG.out.below HB1.out) (HI.out.below HB1.out)).mono ?_
  rintro e w2 ⟨hb2, hp⟩
  have HB2 : Hid (Below w.heap.size w w2) := HB1.out.trans (hb2.mono HB1.out.size)
  clear hb2
  rcases hp with ⟨hne, rfl⟩ | ⟨hok, v1, rfl, h1⟩
  · obtain ⟨hpos, hor⟩ := askP_pos hne
    generalize (askP s fuel 0 L).1 = c at *
    generalize (askP s fuel 0 L).2 = p at *
    have e1 : (c == 0) = false := by simpa using hne
    have e2 : (c != 0) = true := by simpa using hne
    go_wp2_with (go_at_call 9; refine (num_any _ _).mono ?_; rintro e w' ⟨rfl, rfl⟩)
    refine (codeCheck_any s _ (HG.out.below HB2.out)).mono ?_
    rintro e w3 ⟨rfl, hb3⟩
    have HB3 : Hid (Below w.heap.size w w3) := HB2.out.trans (hb3.mono HB2.out.size)
    clear hb3
    generalize (Im.chk s).1 = q at *
    generalize (Im.chk s).2 = p' at *
    by_cases hq : q = 0
    · subst hq
      go_wp2_with (go_at_call 9; refine (num_any _ _).mono ?_; rintro e w' ⟨rfl, rfl⟩)
      go_ret
      exact ⟨by simp [*], HB3.out⟩
    · obtain rfl : c = q := by omega
      go_wp2_with (go_at_call 9; refine (num_any _ _).mono ?_; rintro e w' ⟨rfl, rfl⟩)
      go_ret
      exact ⟨by simp [*], HB3.out⟩
  · have HOK : Hid (AskOk s fuel 0 L) := hok
    obtain ⟨fu, rfl⟩ : ∃ fu : Nat, fuel = (fu : Int) := ⟨fuel.toNat, by have := HOK.out.fu; omega⟩
    have hf : fu ≤ 2000 := by have := HOK.out.fu; omega
    have hc := HOK.out.chk
    have hn : len ≤ 12 := by have := HOK.out.n; have := HLEN.out; omega
    rw [Int.toNat_natCast] at h1
    have HUP : Hid (∀ i, 1 ≤ i → i < (Tr.ans (edg s fu L) (lenI L) L.length).length → (Tr.ans (edg s fu L) (lenI L) L.length)[i - 1]?.getD 0 < (Tr.ans (edg s fu L) (lenI L) L.length)[i]?.getD 0) := Tr.ans_rising _ _ _
    have HLT : Hid (∀ j ∈ Tr.ans (edg s fu L) (lenI L) L.length, j < len) := by
      intro j hj
      have := Tr.ans_lt hj
      rw [HLEN.out] at this
      exact this
    have HPOS : Hid (∀ j ∈ Tr.ans (edg s fu L) (lenI L) L.length, edg s fu L j ≠ []) := fun j hj => Tr.ans_pos hj
    have HALL : Hid (∀ i, i < len → ∀ x, x ∈ edg s fu L i → x ∈ (Tr.ans (edg s fu L) (lenI L) L.length).flatMap (edg s fu L)) := fun i hi => Tr.ans_all (by rw [HLEN.out]; exact hi)
    have hal : (Tr.ans (edg s fu L) (lenI L) L.length).length ≤ 12 := Nat.le_trans (Tr.ans_len _ _ _) HOK.out.n
    have HE4 : Hid (∀ j, (edg s fu L j).length ≤ 400) := fun j => rep_eds s _ fu
    generalize Tr.ans (edg s fu L) (lenI L) L.length = q at *
    obtain ⟨a1, cap1, hv1, hn1, hm1, hx1⟩ := owns_shape h1
    subst hv1
    have H1 : Hid (w2.ownsRow w1.heap.size 3 1 (.slice a1 q.length cap1) q.length (ints q)) := h1
    have HX1 : Hid _ := hx1
    clear hok h1 hx1 hm1 hn1
    go_wp2_with (go_at_call 9; refine (num_any _ _).mono ?_; rintro e w' ⟨rfl, rfl⟩)
    refine (rising_any _ _ q _ H1.out HUP.out).mono ?_
    rintro e w3 ⟨rfl, hb3⟩
    have HB3 : Hid (Below w.heap.size w w3) := HB2.out.trans (hb3.mono HB2.out.size)
    have HB23 : Hid (Below w2.heap.size w2 w3) := hb3
    have HFL : Hid (∀ j, ((q.take j).flatMap (edg s fu L)).length ≤ 4800) := by
      intro j
      refine Nat.le_trans (flatE_len _ _ fun i _ => HE4.out i) ?_
      rw [List.length_take]
      omega
    obtain ⟨m, HM⟩ : ∃ m, Hid (q.length = m) := ⟨_, rfl⟩
    rw [HM.out] at hal HX1
    rw [HM.out]
    clear hb3 H1 HUP
    go_wp2
    go_loopw [13, 14] (fun mv kv wr => ∃ j : Nat, kv = .int .i64 j ∧ j ≤ m ∧ wr.ownsRow w3.heap.size 3 1 mv ((q.take j).flatMap (edg s fu L)).length (ints ((q.take j).flatMap (edg s fu L))) ∧ Below w3.heap.size w3 wr) (fun _ kv _ => m - (intOf kv).toNat)
    case atStart => exact ⟨0, rfl, by omega, World.ownsRow_nil _ _ _ _, Below.refl _ _⟩
    case round =>
      obtain ⟨j, rfl, hj, hown, hb⟩ := hrel
      obtain ⟨am, cm, hvm, -, -, -⟩ := owns_shape hown
      subst hvm
      obtain ⟨wa, rfl⟩ : ∃ wa, wa = wr := ⟨_, rfl⟩
      by_cases hlt : j < m
      · have hjq : j < q.length := by rw [HM.out]; exact hlt
        obtain ⟨g1, rfl, -, hg1, hx⟩ := HX1.out (by omega)
        have hg13 : g1 < w3.heap.size := Nat.lt_of_lt_of_le hg1 HB23.out.size
        have x0 := (hb.cell (p := ⟨g1, j, none⟩) hg13).trans ((HB23.out.cell (p := ⟨g1, j, none⟩) hg1).trans (hx j _ (ints_get q j hjq)))
        have hjm : q[j]?.getD 0 ∈ q := by rw [List.getElem?_eq_getElem hjq]; exact List.getElem_mem hjq
        have hi := HLT.out _ hjm
        have HPJ : Hid (edg s fu L (q[j]?.getD 0) ≠ []) := HPOS.out _ hjm
        have HT : Hid ((q.take (j + 1)).flatMap (edg s fu L) = (q.take j).flatMap (edg s fu L) ++ edg s fu L (q[j]?.getD 0)) := flat_take q _ j hjq
        have hFl := HFL.out j
        generalize q[j]?.getD 0 = i at *
        generalize (q.take j).flatMap (edg s fu L) = R at *
        obtain ⟨g, o, rfl, hg, hcc⟩ := HCELL.out (by omega)
        have hg3 : g < w3.heap.size := Nat.lt_of_lt_of_le hg HB3.out.size
        have hci := (hb.cell (p := ⟨g, o + i, none⟩) hg3).trans ((HB3.out.cell (p := ⟨g, o + i, none⟩) hg).trans (hcc i hi))
        have hsi : (L[i]?.getD ByteArray.empty).size ≤ 24 := by
          have hil : i < L.length := by rw [HLEN.out]; exact hi
          rw [List.getElem?_eq_getElem hil]; exact HOK.out.sz _ (List.getElem_mem hil)
        have HED : Hid (edg s fu L i = (rep s fu (L[i]?.getD ByteArray.empty)).eds) := rfl
        have hE4 := HE4.out i
        generalize L[i]?.getD ByteArray.empty = x at *
        have HO : Hid (wa.ownsRow w3.heap.size 3 1 (.slice am R.length cm) R.length (ints R)) := hown
        have HBr : Hid (Below w3.heap.size w3 wa) := hb
        have d1 : decide ((i : Int) < 0) = false := decide_eq_false (by omega)
        have d2 : decide ((len : Int) ≤ (i : Int)) = false := decide_eq_false (by omega)
        have d3 : (i : Int) < (len : Int) := by omega
        have d4 : decide ((j : Int) < (m : Int)) = true := decide_eq_true (by omega)
        clear hown hb hcc hx hjm
        go_wp2_with fail
        refine (crun_rep s x fu _ (HG.out.below (HB3.out.trans (HBr.out.mono HB3.out.size))) hc hsi hf).mono ?_
        rintro e w4 ⟨v4, v5, rfl, h4, h5, hb4⟩
        rw [← HED.out] at h5
        have hpos : 0 < (edg s fu L i).length := List.length_pos_iff.2 HPJ.out
        obtain ⟨a4, c4, hv4, -, -, -⟩ := owns_shape h4
        obtain ⟨a5, c5, hv5, -, -, hx5⟩ := owns_shape h5
        subst hv4 hv5
        obtain ⟨g5, rfl, hg5a, hg5b, hx5⟩ := hx5 hpos
        have HX5 : Hid (∀ y, y < (edg s fu L i).length → w4.cell? ⟨g5, y, none⟩ = some (.int .i64 ((edg s fu L i)[y]?.getD 0 : Nat))) := fun y hy => hx5 y _ (ints_get _ y hy)
        have HO4 : Hid (w4.ownsRow w3.heap.size 3 1 (.slice am R.length cm) R.length (ints R)) := own_kept HO.out hb4
        have HAP : Hid ((Value.slice am R.length cm).ownBlock ≠ some w4.heap.size ∧ (Value.slice am R.length cm).ownBlock ≠ some g5) := by
          have hz := hb4.size
          constructor
          · intro e; have := (HO.out.lt _ e).2; omega
          · intro e; have := (HO.out.lt _ e).2; omega
        have HB4 : Hid (Below w3.heap.size w3 w4) := HBr.out.trans (hb4.mono HBr.out.size)
        have hE4' := hE4
        clear h4 h5 hx5 hb4 HO
        obtain ⟨n5, HN5⟩ : ∃ n5, Hid ((edg s fu L i).length = n5) := ⟨_, rfl⟩
        rw [HN5.out] at HX5 hpos hE4'
        generalize edg s fu L i = E at *
        generalize rep s fu x = p at *
        rw [HN5.out]
        clear hci x0 d1 d2 d4
        have d5 : ((n5 : Int) == 0) = false := by simp; omega
        obtain ⟨W4, HW4⟩ : ∃ W4, Hid (w4.alloc (.cells #[.int .i64 (p.fa : Nat), .int .i64 (p.pa : Nat), .int .i64 (p.kd : Nat), .int .i64 (p.en : Nat), .slice a4 p.sts.length c4, .slice (some ⟨g5, 0, none⟩) n5 c5, .int .i64 (p.k : Nat), .int .i64 p.top] 39) = W4) := ⟨_, rfl⟩
        have hz4 : W4.heap.size = w4.heap.size + 1 := by rw [← HW4.out]; simp
        have HBW4 : Hid (Below w4.heap.size w4 W4) := by show Below _ _ W4; rw [← HW4.out]; exact (Below.refl _ _).alloc (Nat.le_refl _) _
        have HRB4 : Hid (W4.heap[w4.heap.size]? = some (.cells #[.int .i64 (p.fa : Nat), .int .i64 (p.pa : Nat), .int .i64 (p.kd : Nat), .int .i64 (p.en : Nat), .slice a4 p.sts.length c4, .slice (some ⟨g5, 0, none⟩) n5 c5, .int .i64 (p.k : Nat), .int .i64 p.top] 39)) := by show W4.heap[w4.heap.size]? = _; rw [← HW4.out]; exact rheap_new _ _
        go_wp2
        rw [HW4.out]
        go_loopw [13, 18] (fun mv iv wr => ∃ t : Nat, iv = .int .i64 t ∧ t ≤ n5 ∧ wr.ownsRow w3.heap.size 3 1 mv (R ++ E.take t).length (ints (R ++ E.take t)) ∧ wr.heap[w4.heap.size]? = some (.cells #[.int .i64 (p.fa : Nat), .int .i64 (p.pa : Nat), .int .i64 (p.kd : Nat), .int .i64 (p.en : Nat), .slice a4 p.sts.length c4, .slice (some ⟨g5, 0, none⟩) n5 c5, .int .i64 (p.k : Nat), .int .i64 p.top] 39) ∧ (∀ y, y < n5 → wr.cell? ⟨g5, y, none⟩ = some (.int .i64 (E[y]?.getD 0 : Nat))) ∧ (mv.ownBlock ≠ some w4.heap.size ∧ mv.ownBlock ≠ some g5) ∧ w4.heap.size < wr.heap.size ∧ Below w3.heap.size w3 wr) (fun _ iv _ => n5 - (intOf iv).toNat)
        case atStart =>
          refine ⟨0, rfl, by omega, ?_, HRB4.out, fun y hy => (HBW4.out.cell (p := ⟨g5, y, none⟩) hg5b).trans (HX5.out y hy), HAP.out, by omega, HB4.out.trans (HBW4.out.mono HB4.out.size)⟩
          rw [List.take_zero, List.append_nil]
          exact own_kept HO4.out HBW4.out
        case round =>
          obtain ⟨t, rfl, ht, hown, hrb, hce, hap, hsz, hb⟩ := hrel
          obtain ⟨am2, cm2, hvm2, -, -, -⟩ := owns_shape hown
          subst hvm2
          have r5 : wr.cell? ⟨w4.heap.size, 5, none⟩ = some (.slice (some ⟨g5, 0, none⟩) n5 c5) := rcell_of hrb rfl
          by_cases htt : t < n5
          · have y0 := hce t htt
            have HT2 : Hid (R ++ E.take (t + 1) = (R ++ E.take t) ++ [E[t]?.getD 0]) := by
              show R ++ E.take (t + 1) = _
              rw [List.take_add_one, List.getElem?_eq_getElem (by rw [HN5.out]; exact htt), List.append_assoc]; rfl
            have hR2 : (R ++ E.take t).length ≤ 5300 := by rw [List.length_append, List.length_take]; omega
            generalize E[t]?.getD 0 = y at *
            generalize R ++ E.take t = R2 at *
            have hbs := hb.size
            have hg5r : g5 < wr.heap.size := by omega
            have d6 : decide ((t : Int) < (n5 : Int)) = true := decide_eq_true (by omega)
            have d7 : (t : Int) < (n5 : Int) := by omega
            have HO2 : Hid (wr.ownsRow w3.heap.size 3 1 (.slice am2 R2.length cm2) R2.length (ints R2)) := hown
            have HRBr : Hid (wr.heap[w4.heap.size]? = some (.cells #[.int .i64 (p.fa : Nat), .int .i64 (p.pa : Nat), .int .i64 (p.kd : Nat), .int .i64 (p.en : Nat), .slice a4 p.sts.length c4, .slice (some ⟨g5, 0, none⟩) n5 c5, .int .i64 (p.k : Nat), .int .i64 p.top] 39)) := hrb
            have HCE : Hid (∀ y, y < n5 → wr.cell? ⟨g5, y, none⟩ = some (.int .i64 (E[y]?.getD 0 : Nat))) := hce
            have HAP2 : Hid ((Value.slice am2 R2.length cm2).ownBlock ≠ some w4.heap.size ∧ (Value.slice am2 R2.length cm2).ownBlock ≠ some g5) := hap
            have HBr2 : Hid (Below w3.heap.size w3 wr) := hb
            clear hown hrb hce hap hb
            go_wp2_with (at_builtin; go_loud (refine wpList_append_lies _ rfl _ _ 32 rfl w3.heap.size 3 i0 (.int .i64 0) 1 8 Tryz.undInts hi0 hz0 hz1 hz2 rfl (by decide) _ _ _ rfl (HO2.out.alloc _) ⟨wr.heap.size, 0, none⟩ 1 1 [.int .i64 (y : Nat)] rfl rfl (by exact cell_one_new _ _ _) (by exact ints1 y) (by omega) (by unfold maxLen; omega) (by omega) (by simp; omega) (wr.heap.size + 1) (by simp) ?_; intro g9 cap9 w9 hown9 hgr9' hat9 hlt9))
            have hgr9 : (wr.alloc (.cells #[.int .i64 (y : Nat)] 3)).grownBy w9 (Value.slice am2 R2.length cm2).ownBlock := ⟨hgr9'.os, hgr9'.tape, hgr9'.output, hgr9'.size, hgr9'.block⟩
            have hat : (Value.slice am2 R2.length cm2).ownBlock = some g9 ∨ g9 = wr.heap.size + 1 := hat9
            have HO9 : Hid (w9.ownsRow w3.heap.size 3 1 (.slice (some ⟨g9, 0, none⟩) (R2.length + 1) cap9) (R ++ E.take (t + 1)).length (ints (R ++ E.take (t + 1)))) := by
              show w9.ownsRow _ _ _ _ _ _
              rw [HT2.out, List.length_append]
              have e : ints (R2 ++ [y]) = ints R2 ++ [.int .i64 (y : Nat)] := by simp [ints]
              rw [e]
              exact hown9
            have HRB9 : Hid (w9.heap[w4.heap.size]? = some (.cells #[.int .i64 (p.fa : Nat), .int .i64 (p.pa : Nat), .int .i64 (p.kd : Nat), .int .i64 (p.en : Nat), .slice a4 p.sts.length c4, .slice (some ⟨g5, 0, none⟩) n5 c5, .int .i64 (p.k : Nat), .int .i64 p.top] 39)) := (hgr9.block w4.heap.size (by simp; omega) (Ne.symm HAP2.out.1)).trans ((Below.heap_alloc _ _ _ hsz).trans HRBr.out)
            have HCE9 : Hid (∀ y, y < n5 → w9.cell? ⟨g5, y, none⟩ = some (.int .i64 (E[y]?.getD 0 : Nat))) := fun z hz => (hgr9.cell_far ⟨g5, z, none⟩ (by simp; omega) (Ne.symm HAP2.out.2)).trans ((World.cell?_alloc_lt _ _ ⟨g5, z, none⟩ hg5r).trans (HCE.out z hz))
            have HAP9 : Hid ((Value.slice (some ⟨g9, 0, none⟩) (R2.length + 1) cap9).ownBlock ≠ some w4.heap.size ∧ (Value.slice (some ⟨g9, 0, none⟩) (R2.length + 1) cap9).ownBlock ≠ some g5) := by
              rcases hat with e | e
              · rw [e] at HAP2; exact HAP2.out
              · constructor
                · intro e2; simp [Value.ownBlock] at e2; omega
                · intro e2; simp [Value.ownBlock] at e2; omega
            have HB9 : Hid (Below w3.heap.size w3 w9) := below_grownR (HBr2.out.alloc HBr2.out.size _) hgr9 (by simp; omega) (fun k hk => (HO2.out.lt k hk).1)
            have hs9 : w4.heap.size < w9.heap.size := by have := hgr9.size; simp at this; omega
            clear hown9 hgr9' hgr9 hat9 hat r5 y0
            go_wp2
            go_roundw
            case rel => exact ⟨t + 1, by go_num, by omega, HO9.out, HRB9.out, HCE9.out, HAP9.out, hs9, HB9.out⟩
            case measure => simp [intOf]; omega
          · obtain rfl : t = n5 := by omega
            have hl : R ++ E.take t = (q.take (j + 1)).flatMap (edg s fu L) := by rw [List.take_of_length_le (by rw [HN5.out]; exact Nat.le_refl _), HT.out]
            rw [hl] at hown
            rw [hl]
            clear hl
            have HFN : Hid (wr.ownsRow w3.heap.size 3 1 (.slice am2 ((q.take (j + 1)).flatMap (edg s fu L)).length cm2) ((q.take (j + 1)).flatMap (edg s fu L)).length (ints ((q.take (j + 1)).flatMap (edg s fu L)))) := hown
            have HBr2 : Hid (Below w3.heap.size w3 wr) := hb
            clear hown hrb hce hap hb
            go_wp2
            go_roundw
            case rel => exact ⟨j + 1, by go_num, by omega, HFN.out, HBr2.out⟩
            case measure => simp [intOf]; omega
      · obtain rfl : j = m := by omega
        rw [List.take_of_length_le (by rw [HM.out]; exact Nat.le_refl _)] at hown
        rw [List.take_of_length_le (by rw [HM.out]; exact Nat.le_refl _)]
        have HO : Hid (wa.ownsRow w3.heap.size 3 1 (.slice am (q.flatMap (edg s fu L)).length cm) (q.flatMap (edg s fu L)).length (ints (q.flatMap (edg s fu L)))) := hown
        have HBa : Hid (Below w.heap.size w wa) := HB3.out.trans (hb.mono HB3.out.size)
        clear hown hb
        generalize q.flatMap (edg s fu L) = R at *
        go_wp2
        go_loopw [19] (fun iv wr => ∃ i : Nat, iv = .int .i64 i ∧ i ≤ len ∧ Below wa.heap.size wa wr) (fun iv _ => len - (intOf iv).toNat)
        case atStart => exact ⟨0, rfl, by omega, Below.refl _ _⟩
        case round =>
          obtain ⟨i, rfl, hi, hb⟩ := hrel
          by_cases hil : i < len
          · obtain ⟨g, o, rfl, hg, hcc⟩ := HCELL.out (by omega)
            have hga : g < wa.heap.size := Nat.lt_of_lt_of_le hg HBa.out.size
            have hci := (hb.cell (p := ⟨g, o + i, none⟩) hga).trans ((HBa.out.cell (p := ⟨g, o + i, none⟩) hg).trans (hcc i hil))
            have hsi : (L[i]?.getD ByteArray.empty).size ≤ 24 := by
              have hil2 : i < L.length := by rw [HLEN.out]; exact hil
              rw [List.getElem?_eq_getElem hil2]; exact HOK.out.sz _ (List.getElem_mem hil2)
            have HED : Hid (edg s fu L i = (rep s fu (L[i]?.getD ByteArray.empty)).eds) := rfl
            have HSUB : Hid (∀ x, x ∈ edg s fu L i → x ∈ R) := HALL.out i hil
            have HMR : Hid (Mor (rep s fu (L[i]?.getD ByteArray.empty)) (rep s fu (L[i]?.getD ByteArray.empty)) fu) := rep_mor _ _ _
            generalize L[i]?.getD ByteArray.empty = x at *
            have HBr : Hid (Below wa.heap.size wa wr) := hb
            clear hb hcc
            go_wp2_with fail
            refine (crun_rep s x fu _ (HG.out.below (HBa.out.trans (HBr.out.mono HBa.out.size))) hc hsi hf).mono ?_
            rintro e w4 ⟨v4, v5, rfl, h4, h5, hb4⟩
            rw [← HED.out] at h5
            obtain ⟨a4, c4, hv4, -, -, -⟩ := owns_shape h4
            obtain ⟨a5, c5, hv5, -, -, -⟩ := owns_shape h5
            subst hv4 hv5
            obtain ⟨n5, HN5⟩ : ∃ n5, Hid ((edg s fu L i).length = n5) := ⟨_, rfl⟩
            have HB4 : Hid (Below wa.heap.size wa w4) := HBr.out.trans (hb4.mono HBr.out.size)
            have H5 : Hid (w4.ownsRow wr.heap.size 3 1 (.slice a5 n5 c5) (edg s fu L i).length (ints (edg s fu L i))) := by rw [← HN5.out]; exact h5
            rw [HN5.out]
            generalize edg s fu L i = E at *
            generalize rep s fu x = p at *
            have hk0 : p.en = 0 → 0 < p.k := fun h => (HMR.out.not (by omega)).2
            clear h4 h5 hb4 hci
            go_wp2_with fail
            refine (within_any _ _ _ _ E R _ (H5.out.alloc _) ((own_kept HO.out HB4.out).alloc _) HSUB.out).mono ?_
            rintro e w5 ⟨rfl, hb5⟩
            have hrb := (hb5.block w4.heap.size (by simp)).trans (rheap_new _ _)
            have HB5 : Hid (Below wa.heap.size wa w5) := HB4.out.trans ((below_new hb5).mono HB4.out.size)
            have r3 : w5.cell? ⟨w4.heap.size, 3, none⟩ = some (.int .i64 (p.en : Nat)) := rcell_of hrb rfl
            have r6 : w5.cell? ⟨w4.heap.size, 6, none⟩ = some (.int .i64 (p.k : Nat)) := rcell_of hrb rfl
            have d1 : decide ((p.k : Int) < 0) = false := decide_eq_false (by omega)
            clear hb5 hrb
            by_cases he : p.en = 0
            · have hk := hk0 he
              have d2 : ((p.en : Int) == 0) = true := by simp [he]
              have d3 : ((p.k : Int) == 0) = false := by simp; omega
              go_wp2_with (go_at_call 9; refine (num_any _ _).mono ?_; rintro e w' ⟨rfl, rfl⟩)
              go_roundw
              case rel => exact ⟨i + 1, by go_num, by omega, HB5.out⟩
              case measure => simp [intOf]; omega
            · have d2 : ((p.en : Int) == 0) = false := by simp; omega
              go_wp2_with (go_at_call 9; refine (num_any _ _).mono ?_; rintro e w' ⟨rfl, rfl⟩)
              go_roundw
              case rel => exact ⟨i + 1, by go_num, by omega, HB5.out⟩
              case measure => simp [intOf]; omega
          · obtain rfl : i = len := by omega
            have HBF : Hid (Below w.heap.size w wr) := HBa.out.trans (hb.mono HBa.out.size)
            clear hb
            go_wp2
            go_ret
            exact ⟨rfl, HBF.out⟩
end Go.Proofs.YtbmaiioecnmopaaGreatDoor
