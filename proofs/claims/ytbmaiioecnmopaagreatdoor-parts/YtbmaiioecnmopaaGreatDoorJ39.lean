/-
  LawQ, LawI, PureW, CoA, PureX, PaA: THESE TEXTS, JOINED. By the verifier of the loop 'triage'.
-/
import Derived.Test.YtbmaiioecnmopaaGreatDoorJ05
import Derived.Test.YtbmaiioecnmopaaGreatDoorJ34
import Derived.Test.YtbmaiioecnmopaaGreatDoorJ28
import Derived.Test.YtbmaiioecnmopaaGreatDoorJ32
import Derived.Test.YtbmaiioecnmopaaGreatDoorJ37
import Derived.Test.YtbmaiioecnmopaaGreatDoorJ38
/-
  THE LAWS Parts, Covers: rising, within. By the verifier of the loop 'triage'.
-/
namespace Go.Proofs.YtbmaiioecnmopaaGreatDoor
open Go.RowKit

theorem ownsB {w w' : World} {base : Nat} {e : TypeId} {size : Nat} {v : Value} {n : Nat} {xs : List Value} (h : w.ownsRow base e size v n xs) (hb : Below w.heap.size w w') : w'.ownsRow base e size v n xs :=
  World.ownsRow.kept h (grown_of_below hb) (by rcases hx : v.ownBlock with _ | x; exact Or.inl rfl; exact Or.inr (by simp))
/-- eight cells of a block. -/
theorem cellsB {w : World} {b : Nat} {v0 v1 v2 v3 v4 v5 v6 v7 : Value} {t : TypeId} (h : w.heap[b]? = some (.cells #[v0, v1, v2, v3, v4, v5, v6, v7] t (0, 0))) :
    w.cell? ⟨b, 0, none⟩ = some v0 ∧ w.cell? ⟨b, 1, none⟩ = some v1 ∧ w.cell? ⟨b, 2, none⟩ = some v2 ∧ w.cell? ⟨b, 3, none⟩ = some v3 ∧ w.cell? ⟨b, 4, none⟩ = some v4 ∧ w.cell? ⟨b, 5, none⟩ = some v5 ∧ w.cell? ⟨b, 6, none⟩ = some v6 ∧ w.cell? ⟨b, 7, none⟩ = some v7 :=
  ⟨cell_of_heap h rfl, cell_of_heap h rfl, cell_of_heap h rfl, cell_of_heap h rfl, cell_of_heap h rfl, cell_of_heap h rfl, cell_of_heap h rfl, cell_of_heap h rfl⟩
set_option maxHeartbeats 3200000 in
set_option maxRecDepth 100000 in
theorem rising_any (A : Nat) (a : Value) (l : List Nat) (w : World) (ha : w.ownsRow A 3 1 a l.length (ints l)) (hr : ∀ i, 1 ≤ i → i < l.length → l[i - 1]?.getD 0 < l[i]?.getD 0) :
    Calls Tryz.prog 12 #[a] w fun e w' => e = .returned (.bool true) ∧ Below w.heap.size w w' := by
  obtain ⟨a1, cap1, hv1, hn1, hm1, hc1⟩ := owns_shape ha
  subst hv1
  have hl : l.length ≤ maxLen := by omega
  unfold maxLen at hl
  obtain ⟨len, HLEN⟩ : ∃ len, Hid (l.length = len) := ⟨_, rfl⟩
  have HR : Hid (∀ i, 1 ≤ i → i < len → l[i - 1]?.getD 0 < l[i]?.getD 0) := by rw [← HLEN.out]; exact hr
  rw [HLEN.out] at hc1 hl ⊢
  clear ha hn1 hm1 hr
  go_enter Tryz.func12, Tryz.ntmps12
  go_wp2
  go_loopw [3] (fun i wr => ∃ j : Nat, i = .int .i64 ((j : Int) + 1) ∧ j ≤ len ∧ Below w.heap.size w wr) (fun i _ => len + 1 - (intOf i).toNat)
  case atStart => exact ⟨0, rfl, by omega, Below.refl _ _⟩
  case round =>
    obtain ⟨j, rfl, hj, hB⟩ := hrel
    by_cases hlt : j + 1 < len
    · obtain ⟨g1, rfl, -, hg1, hx1⟩ := hc1 (by omega)
      have x0 := (hB.cell (p := ⟨g1, j, none⟩) hg1).trans (hx1 j _ (ints_get l j (by rw [HLEN.out]; omega)))
      have x1 := (hB.cell (p := ⟨g1, j + 1, none⟩) hg1).trans (hx1 (j + 1) _ (ints_get l (j + 1) (by rw [HLEN.out]; omega)))
      have hlt2 := HR.out (j + 1) (by omega) hlt
      rw [Nat.add_sub_cancel] at hlt2
      generalize l[j]?.getD 0 = y at *
      generalize l[j + 1]?.getD 0 = x at *
      have HB : Hid _ := hB
      have hi1 : (j : Int) + 1 - 1 = (j : Int) := by omega
      have hle : ¬ (x : Int) ≤ (y : Int) := by omega
      clear hc1 hx1 hB
      go_wp2
      go_quiet (fail)
      go_wp2
      go_roundw
      case rel => exact ⟨j + 1, by go_num, by omega, by first | exact HB.out | exact below_drewN _ HB.out⟩
      case measure => simp [intOf]; omega
    · have HB : Hid _ := hB
      have hge : ¬ (j : Int) + 1 < (len : Int) := by omega
      clear hc1 hB
      go_wp2
      go_ret
      exact ⟨rfl, HB.out⟩

set_option maxHeartbeats 3200000 in
set_option maxRecDepth 100000 in
theorem within_any (A B : Nat) (a b : Value) (l m : List Nat) (w : World) (ha : w.ownsRow A 3 1 a l.length (ints l)) (hb : w.ownsRow B 3 1 b m.length (ints m)) (hs : ∀ x, x ∈ l → x ∈ m) :
    Calls Tryz.prog 20 #[a, b] w fun e w' => e = .returned (.bool true) ∧ Below w.heap.size w w' := by
  obtain ⟨a1, cap1, hv1, hn1, hm1, hc1⟩ := owns_shape ha
  obtain ⟨a2, cap2, hv2, hn2, hm2, hc2⟩ := owns_shape hb
  subst hv1 hv2
  have hl : l.length ≤ maxLen := by omega
  have hl2 : m.length ≤ maxLen := by omega
  unfold maxLen at hl hl2
  obtain ⟨len, HLEN⟩ : ∃ len, Hid (l.length = len) := ⟨_, rfl⟩
  obtain ⟨lem, HLEM⟩ : ∃ lem, Hid (m.length = lem) := ⟨_, rfl⟩
  rw [HLEN.out] at hc1 hl ⊢
  rw [HLEM.out] at hc2 hl2 ⊢
  have HS : Hid (∀ x, x ∈ l → x ∈ m) := hs
  clear ha hn1 hm1 hb hn2 hm2 hs
  go_enter Tryz.func20, Tryz.ntmps20
  go_wp2
  go_loopw [5] (fun i wr => ∃ j : Nat, i = .int .i64 j ∧ j ≤ len ∧ Below w.heap.size w wr) (fun i _ => len - (intOf i).toNat)
  case atStart => exact ⟨0, rfl, by omega, Below.refl _ _⟩
  case round =>
    obtain ⟨j, rfl, hj, hB⟩ := hrel
    by_cases hlt : j < len
    · obtain ⟨g1, rfl, -, hg1, hx1⟩ := hc1 (by omega)
      have x0 := hx1 j _ (ints_get l j (by rw [HLEN.out]; omega))
      have hmem : l[j]?.getD 0 ∈ m := HS.out _ (by rw [List.getElem?_eq_getElem (by rw [HLEN.out]; omega)]; simp)
      generalize l[j]?.getD 0 = x at *
      obtain ⟨q, hq, hqx⟩ := List.getElem_of_mem hmem
      have hqx : m[q]?.getD 0 = x := by rw [List.getElem?_eq_getElem hq]; exact hqx
      rw [HLEM.out] at hq
      obtain ⟨g2, rfl, -, hg2, hx2⟩ := hc2 (by omega)
      have HX : Hid (∀ i, i < lem → w.cell? ⟨g2, i, none⟩ = some (.int .i64 (m[i]?.getD 0 : Nat))) := fun i hi => hx2 i _ (ints_get m i (by rw [HLEM.out]; exact hi))
      have HB : Hid _ := hB
      clear hc1 hx1 hc2 hx2 hB hmem
      go_wp2
      go_loopw [6, 7] (fun d i wq => ∃ (k : Nat) (t : Bool), i = .int .i64 k ∧ d = .bool t ∧ k ≤ lem ∧ (q < k → t = true) ∧ Below w.heap.size w wq) (fun _ i _ => lem - (intOf i).toNat)
      case atStart => exact ⟨0, false, rfl, rfl, by omega, by omega, HB.out⟩
      case round =>
        obtain ⟨k, t, rfl, rfl, hk, ht, hBq⟩ := hrel
        have x1 := (hBq.cell (p := ⟨g1, j, none⟩) hg1).trans x0
        have HBQ : Hid _ := hBq
        by_cases hlk : k < lem
        · have y1 := (hBq.cell (p := ⟨g2, k, none⟩) hg2).trans (HX.out k hlk)
          have HQ : Hid (k = q → m[k]?.getD 0 = x) := fun e => by rw [e]; exact hqx
          clear hBq x0 hqx
          generalize m[k]?.getD 0 = y at *
          by_cases hxy : y = x
          · have hb1 : ((y : Int) == (x : Int)) = true := by rw [hxy]; simp
            go_wp2
            go_quiet (fail)
            go_wp2
            go_roundw
            case rel => exact ⟨k + 1, true, by go_num, rfl, by omega, fun _ => rfl, by first | exact HBQ.out | exact below_drewN _ HBQ.out⟩
            case measure => simp [intOf]; omega
          · have hb1 : ((y : Int) == (x : Int)) = false := by rw [beq_eq_false_iff_ne]; omega
            go_wp2
            go_quiet (fail)
            go_wp2
            go_roundw
            case rel => exact ⟨k + 1, t, by go_num, rfl, by omega, fun h => ht (by rcases Nat.lt_or_ge q k with h1 | h1; exact h1; exact absurd (HQ.out (by omega)) hxy), by first | exact HBQ.out | exact below_drewN _ HBQ.out⟩
            case measure => simp [intOf]; omega
        · have htt := ht (by omega)
          subst htt
          clear hBq x0 x1 ht
          go_wp2
          go_roundw
          case rel => exact ⟨j + 1, by go_num, by omega, by first | exact HBQ.out | exact below_drewN _ HBQ.out⟩
          case measure => simp [intOf]; omega
    · have HB : Hid _ := hB
      have hge : ¬ (j : Int) < (len : Int) := by omega
      clear hc1 hc2 hB
      go_wp2
      go_ret
      exact ⟨rfl, HB.out⟩
end Go.Proofs.YtbmaiioecnmopaaGreatDoor

/-
  THE LAWS Parts, Covers: alive. By the verifier of the loop 'triage'.
-/
namespace Go.Proofs.YtbmaiioecnmopaaGreatDoor
open Go.RowKit

theorem alive_b0 : (askP ⟨#[1, 1, 17]⟩ 9 1 [⟨#[97]⟩]).1 = 0 := by decide
theorem alive_b1 : (Bk.bks (kys ⟨#[1, 1, 17]⟩ 9 1 [⟨#[97]⟩]) (zs [⟨#[97]⟩]) 1).length = 1 := by decide
theorem alive_t0 : (askP ⟨#[1, 3, 10, 2, 0]⟩ 9 0 [⟨#[97]⟩]).1 = 0 := by decide
theorem alive_t1 : (Tr.ans (edg ⟨#[1, 3, 10, 2, 0]⟩ 9 [⟨#[97]⟩]) (lenI [⟨#[97]⟩]) 1).length = 1 := by decide
theorem alive_r : (outP ⟨#[1, 1, 17]⟩ ⟨#[]⟩ 9).1.kd = 5 := by decide

set_option maxHeartbeats 3200000 in
set_option maxRecDepth 100000 in
theorem alive_any (w : World) (hG : Glob w) : Calls Tryz.prog 7 #[] w fun e w' => e = .returned (.bool true) ∧ Below w.heap.size w w' := by
  have HG : Hid (Glob w) := hG
  clear hG
  go_enter Tryz.func7, Tryz.ntmps7
  go_wp2_with fail
  refine (crun_any ⟨#[1, 1, 17]⟩ ⟨#[]⟩ 9 _ HG.out).mono ?_
  rintro e w1 ⟨v, rfl, ha, hb1⟩
  obtain ⟨t1, t2⟩ := out_trap
  have t3 := alive_r
  generalize outP ⟨#[1, 1, 17]⟩ ⟨#[]⟩ 9 = o at *
  obtain ⟨⟨en, fa, pa, kd, sts, eds, k, top⟩, oe, op⟩ := o
  dsimp only at *
  subst t1 t2 t3
  obtain ⟨v4, v5, hv, h4, h5⟩ := ha
  dsimp only at hv h4 h5
  obtain ⟨a4, c4, hv4, -, -, -⟩ := owns_shape h4
  obtain ⟨a5, c5, hv5, -, -, -⟩ := owns_shape h5
  subst hv4 hv5
  subst hv
  have HB1 : Hid (Below w.heap.size w w1) := hb1
  clear h4 h5 hb1
  have HI1 : Hid (∀ (W : World) o, Ins [⟨#[97]⟩] (.slice (some ⟨W.heap.size + 1, 0, none⟩) 1 1) ((W.alloc o).alloc (.cells #[.string ⟨#[97]⟩] 9))) := by
    intro W o
    have := ins_one ⟨#[97]⟩ (W.alloc o) 9 (by unfold maxLen; decide)
    rwa [World.size_alloc] at this
  have HI2 : Hid (∀ (W : World), Ins [⟨#[97]⟩] (.slice (some ⟨W.heap.size, 0, none⟩) 1 1) (W.alloc (.cells #[.string ⟨#[97]⟩] 9))) := by
    intro W
    exact ins_one ⟨#[97]⟩ W 9 (by unfold maxLen; decide)
  have HAL : Hid (∀ (W : World) o, Below W.heap.size W (W.alloc o)) := fun W o => (Below.refl _ _).alloc (Nat.le_refl _) _
  go_wp2_with fail
  refine (codeBuckets_any ⟨#[1, 1, 17]⟩ 9 1 [⟨#[97]⟩] _ _ (((HG.out.below HB1.out).below (HAL.out _ _)).below (HAL.out _ _)) (HI1.out _ _)).mono ?_
  rintro e w2 ⟨hb2, (⟨hne, -⟩ | ⟨-, S, M, v2, rfl, hbk⟩)⟩
  · exact absurd alive_b0 hne
  have hv2 := hbk.shape
  have hlen : (Bk.bks (kys ⟨#[1, 1, 17]⟩ (9 : Int).toNat (1 : Int).toNat [⟨#[97]⟩]) (zs [⟨#[97]⟩]) ([⟨#[97]⟩] : List ByteArray).length).length = 1 := alive_b1
  rw [hlen] at hv2
  obtain ⟨a6, c6, rfl, -⟩ := hv2
  have hbk2 := (two_new hb2).1
  have HB2 : Hid (Below w.heap.size w w2) := HB1.out.trans ((below_two hb2).mono HB1.out.size)
  have HRB : Hid _ := hbk2
  have hs2 : w1.heap.size < w2.heap.size := by have := hb2.size; simp at this; omega
  clear hbk hb2 hlen hbk2
  go_wp2_with fail
  refine (codeTrim_any ⟨#[1, 3, 10, 2, 0]⟩ 9 [⟨#[97]⟩] _ _ ((HG.out.below HB2.out).below (HAL.out _ _)) (HI2.out _)).mono ?_
  rintro e w3 ⟨hb3, (⟨hne, -⟩ | ⟨-, v3, rfl, h3⟩)⟩
  · exact absurd alive_t0 hne
  obtain ⟨a7, c7, hv7, -, -, -⟩ := owns_shape h3
  have hlen : (Tr.ans (edg ⟨#[1, 3, 10, 2, 0]⟩ (9 : Int).toNat [⟨#[97]⟩]) (lenI [⟨#[97]⟩]) ([⟨#[97]⟩] : List ByteArray).length).length = 1 := alive_t1
  rw [hlen] at hv7
  subst hv7
  have hb3' : Below w2.heap.size w2 w3 := below_new hb3
  have HB3 : Hid (Below w.heap.size w w3) := HB2.out.trans (hb3'.mono HB2.out.size)
  have hrb := (hb3'.block w1.heap.size hs2).trans HRB.out
  have r2 : w3.cell? ⟨w1.heap.size, 2, none⟩ = some (.int .i64 5) := rcell_of hrb rfl
  have r3 : w3.cell? ⟨w1.heap.size, 3, none⟩ = some (.int .i64 1) := rcell_of hrb rfl
  clear h3 hb3 hb3' hlen hrb
  go_wp2_with (go_at_call 9; refine (num_any _ _).mono ?_; rintro e w' ⟨rfl, rfl⟩)
  go_ret
  exact ⟨by first | done | rfl | simp, HB3.out⟩
end Go.Proofs.YtbmaiioecnmopaaGreatDoor

/-
  THE PLAIN MATHEMATICS of picking: those that are picked reach all that all reach. By the verifier of the loop 'triage'.
-/
namespace Go.Proofs.YtbmaiioecnmopaaGreatDoor
namespace Tr

theorem rising_of_pairwise {l : List Nat} (h : l.Pairwise (· < ·)) : ∀ i, 1 ≤ i → i < l.length → l[i - 1]?.getD 0 < l[i]?.getD 0 := by
  intro i h1 h2
  rw [List.getElem?_eq_getElem (by omega), List.getElem?_eq_getElem h2]
  exact List.pairwise_iff_getElem.1 h (i - 1) i (by omega) h2 (by omega)
theorem range_filter_rising (n : Nat) (p : Nat → Bool) : ((List.range n).filter p).Pairwise (· < ·) := List.Pairwise.filter p List.pairwise_lt_range
theorem ans_rising (E : Nat → List Nat) (Z : Nat → Nat) (n : Nat) : ∀ i, 1 ≤ i → i < (ans E Z n).length → (ans E Z n)[i - 1]?.getD 0 < (ans E Z n)[i]?.getD 0 := rising_of_pairwise (range_filter_rising n _)
theorem ans_mem {E : Nat → List Nat} {Z : Nat → Nat} {n j : Nat} : j ∈ ans E Z n ↔ j < n ∧ j ∈ (picks E Z n).2 := by
  unfold ans
  rw [List.mem_filter, List.mem_range]
  simp
theorem ans_lt {E : Nat → List Nat} {Z : Nat → Nat} {n j : Nat} (h : j ∈ ans E Z n) : j < n := (ans_mem.1 h).1
theorem ans_pos {E : Nat → List Nat} {Z : Nat → Nat} {n j : Nat} (h : j ∈ ans E Z n) : E j ≠ [] := (picks_pk E Z n).1.pos j (ans_mem.1 h).2
theorem ans_len (E : Nat → List Nat) (Z : Nat → Nat) (n : Nat) : (ans E Z n).length ≤ n := by
  unfold ans
  have := List.length_filter_le (fun i => (picks E Z n).2.contains i) (List.range n)
  simpa using this
/-- all is reached. -/
theorem ans_all {E : Nat → List Nat} {Z : Nat → Nat} {n i : Nat} (hi : i < n) : ∀ x, x ∈ E i → x ∈ (ans E Z n).flatMap E := by
  intro x hx
  obtain ⟨hp, hs⟩ := picks_pk E Z n
  have h0 := sel_none hs i hi
  have hm : x ∈ (picks E Z n).1 := by
    unfold fr at h0
    rw [List.filter_eq_nil_iff] at h0
    have := h0 x hx
    simpa using this
  rw [hp.all] at hm
  obtain ⟨j, hj, hxj⟩ := List.mem_flatMap.1 hm
  exact List.mem_flatMap.2 ⟨j, ans_mem.2 ⟨hp.lt j hj, hj⟩, hxj⟩
end Tr
end Go.Proofs.YtbmaiioecnmopaaGreatDoor

/-
  THE LAW Covers: its walk. By the verifier of the loop 'triage'.
-/
namespace Go.Proofs.YtbmaiioecnmopaaGreatDoor
open Go.RowKit

theorem chk_pos (s : ByteArray) : 0 ≤ (Im.chk s).1 := by
  unfold Im.chk
  repeat' split
  all_goals (dsimp only; decide)
theorem askP_pos {s : ByteArray} {fuel depth : Int} {L : List ByteArray} (h : (askP s fuel depth L).1 ≠ 0) : 0 < (askP s fuel depth L).1 ∧ ((Im.chk s).1 = 0 ∨ (askP s fuel depth L).1 = (Im.chk s).1) := by
  by_cases hc : (Im.chk s).1 = 0
  · refine ⟨?_, Or.inl hc⟩
    by_cases hb : badN fuel depth L.length
    · rw [askP_arg hc hb]; decide
    · cases hi : lng L 0 with
      | none => rw [askP_ok hc hb hi] at h; exact absurd rfl h
      | some i => rw [askP_lng hc hb hi]; exact Int.one_pos
  · rw [askP_chk hc]
    refine ⟨?_, Or.inr rfl⟩
    have := chk_pos s
    show 0 < (Im.chk s).1
    omega
/-- the code's Run of an image that is one, with an input that is none too long. -/
theorem crun_rep (s inp : ByteArray) (fuel : Nat) (w : World) (hG : Glob w) (hc : Im.chk s = (0, 0)) (hi : inp.size ≤ 24) (hf : fuel ≤ 2000) :
    Calls Tryz.prog 11 #[.string s, .string inp, .int .i64 fuel] w fun e w' => ∃ v4 v5, e = .returned (.tuple #[.agg #[.int .i64 ((rep s fuel inp).fa : Nat), .int .i64 ((rep s fuel inp).pa : Nat), .int .i64 ((rep s fuel inp).kd : Nat), .int .i64 ((rep s fuel inp).en : Nat), v4, v5, .int .i64 ((rep s fuel inp).k : Nat), .int .i64 (rep s fuel inp).top], .int .i64 0, .int .i64 0]) ∧
      w'.ownsRow w.heap.size 34 2 v4 (rep s fuel inp).sts.length (prs (rep s fuel inp).sts) ∧ w'.ownsRow w.heap.size 3 1 v5 (rep s fuel inp).eds.length (ints (rep s fuel inp).eds) ∧ Below w.heap.size w w' := by
  refine (crun_any s inp fuel w hG).mono ?_
  rintro e w' ⟨v, rfl, hr, hb⟩
  rw [outP_rep hc hi hf] at hr ⊢
  obtain ⟨v4, v5, rfl, h4, h5⟩ := hr
  exact ⟨v4, v5, rfl, h4, h5, hb⟩
theorem flat_take (q : List Nat) (E : Nat → List Nat) (j : Nat) (h : j < q.length) : (q.take (j + 1)).flatMap E = (q.take j).flatMap E ++ E (q[j]?.getD 0) := by
  rw [List.take_add_one, List.getElem?_eq_getElem h, List.flatMap_append]
  simp
theorem flatE_len (q : List Nat) (E : Nat → List Nat) (hE : ∀ j ∈ q, (E j).length ≤ 400) : (q.flatMap E).length ≤ 400 * q.length := by
  induction q with
  | nil => simp
  | cons x q ih =>
    have h1 := hE x (by simp)
    have h2 := ih (fun j hj => hE j (by simp [hj]))
    rw [List.flatMap_cons, List.length_append, List.length_cons]
    omega
theorem rep_eds (s inp : ByteArray) (fuel : Nat) : (rep s fuel inp).eds.length ≤ 400 := by
  show (Im.el _).length ≤ 400
  unfold Im.el
  have := List.length_filter_le (fun i => (Im.runP s inp fuel (Im.st0 s) 0).2.2.1.edg i) (List.range 400)
  simpa using this
theorem rep_mor (s inp : ByteArray) (fuel : Nat) : Mor (rep s fuel inp) (rep s fuel inp) fuel := mor_of s inp fuel fuel (Nat.le_refl _)
end Go.Proofs.YtbmaiioecnmopaaGreatDoor

/-
  THE PLAIN MATHEMATICS of buckets: they part the inputs that crash. By the verifier of the loop 'triage'.
-/
namespace Go.Proofs.YtbmaiioecnmopaaGreatDoor
namespace Bk

/-- bucket number i. -/
def at0 (l : List Bk) (i : Nat) : Bk := l[i]?.getD none0
theorem idx_self {l : List Bk} {k : Ky} (h : idx l k < l.length) : (at0 l (idx l k)).key = k := by
  obtain ⟨b, hb, hk⟩ := idx_at l k h
  unfold at0
  rw [hb]
  exact hk
/-- what is true of the buckets of the first n inputs. -/
structure Part (K : Nat → Option Ky) (Z : Nat → Nat) (n : Nat) (l : List Bk) : Prop where
  key : ∀ i, i < l.length → idx l (at0 l i).key = i
  mem : ∀ i, i < l.length → (at0 l i).mem = (List.range n).filter fun j => decide (K j = some (at0 l i).key)
  rep : ∀ i, i < l.length → (at0 l i).rep ∈ (at0 l i).mem
  min : ∀ i, i < l.length → ∀ j ∈ (at0 l i).mem, Z (at0 l i).rep ≤ Z j
  all : ∀ j k, j < n → K j = some k → idx l k < l.length
theorem at0_app_lt {l m : List Bk} {i : Nat} (h : i < l.length) : at0 (l ++ m) i = at0 l i := by unfold at0; rw [List.getElem?_append_left h]
theorem at0_app_eq (l : List Bk) (b : Bk) : at0 (l ++ [b]) l.length = b := by unfold at0; simp
theorem at0_set_eq {l : List Bk} {i : Nat} (b : Bk) (h : i < l.length) : at0 (l.set i b) i = b := by unfold at0; rw [List.getElem?_set_self h]; rfl
theorem at0_set_ne {l : List Bk} {i j : Nat} (b : Bk) (h : i ≠ j) : at0 (l.set i b) j = at0 l j := by unfold at0; rw [List.getElem?_set_ne h]
theorem range_filter_succ (n : Nat) (p : Nat → Bool) : (List.range (n + 1)).filter p = (List.range n).filter p ++ if p n then [n] else [] := by
  rw [List.range_succ, List.filter_append]
  congr 1
  by_cases h : p n <;> simp [h]
theorem part_none {K : Nat → Option Ky} {Z : Nat → Nat} {n : Nat} {l : List Bk} (h : Part K Z n l) (hk : K n = none) : Part K Z (n + 1) l := by
  refine ⟨h.key, ?_, h.rep, h.min, ?_⟩
  · intro i hi
    rw [h.mem i hi, range_filter_succ, hk]
    simp
  · intro j k hj hjk
    rcases Nat.lt_or_ge j n with h1 | h1
    · exact h.all j k h1 hjk
    · obtain rfl : j = n := by omega
      rw [hk] at hjk; cases hjk
/-- a bucket that is there gets one more. -/
theorem part_known {K : Nat → Option Ky} {Z : Nat → Nat} {n : Nat} {l : List Bk} {k : Ky} (h : Part K Z n l) (hk : K n = some k) (hq : idx l k < l.length) : Part K Z (n + 1) (put Z l (idx l k) n) := by
  have hlen : (put Z l (idx l k) n).length = l.length := put_len _ _ _ _
  have hidx : ∀ q, idx (put Z l (idx l k) n) q = idx l q := fun q => idx_put Z l _ n hq q
  have hself : at0 (put Z l (idx l k) n) (idx l k) = one Z (at0 l (idx l k)) n := by unfold put; exact at0_set_eq _ hq
  have hne : ∀ i, i ≠ idx l k → at0 (put Z l (idx l k) n) i = at0 l i := fun i hi => by unfold put; exact at0_set_ne _ (Ne.symm hi)
  have hkk := idx_self hq
  refine ⟨?_, ?_, ?_, ?_, ?_⟩
  · intro i hi
    rw [hlen] at hi
    rw [hidx]
    by_cases e : i = idx l k
    · subst e
      rw [hself]
      show idx l (at0 l (idx l k)).key = _
      exact h.key _ hi
    · rw [hne i e]; exact h.key i hi
  · intro i hi
    rw [hlen] at hi
    by_cases e : i = idx l k
    · subst e
      rw [hself]
      show (at0 l (idx l k)).mem ++ [n] = (List.range (n + 1)).filter fun j => decide (K j = some (at0 l (idx l k)).key)
      rw [h.mem _ hi, range_filter_succ, hkk, hk]
      simp
    · rw [hne i e, h.mem i hi, range_filter_succ]
      have : decide (K n = some (at0 l i).key) = false := by
        rw [decide_eq_false_iff_not, hk]
        intro e2
        cases e2
        exact e (h.key i hi).symm
      rw [this]
      simp
  · intro i hi
    rw [hlen] at hi
    by_cases e : i = idx l k
    · subst e
      rw [hself]
      show (if Z n < Z (at0 l (idx l k)).rep then n else (at0 l (idx l k)).rep) ∈ (at0 l (idx l k)).mem ++ [n]
      split
      · simp
      · exact List.mem_append_left _ (h.rep _ hi)
    · rw [hne i e]; exact h.rep i hi
  · intro i hi
    rw [hlen] at hi
    by_cases e : i = idx l k
    · subst e
      rw [hself]
      show ∀ j ∈ (at0 l (idx l k)).mem ++ [n], Z (if Z n < Z (at0 l (idx l k)).rep then n else (at0 l (idx l k)).rep) ≤ Z j
      intro j hj
      rcases List.mem_append.1 hj with h1 | h1
      · have := h.min _ hi j h1
        split <;> omega
      · simp at h1
        subst h1
        split <;> omega
    · rw [hne i e]; exact h.min i hi
  · intro j q hj hjq
    rw [hidx, hlen]
    rcases Nat.lt_or_ge j n with h1 | h1
    · exact h.all j q h1 hjq
    · obtain rfl : j = n := by omega
      rw [hk] at hjq; cases hjq
      exact hq
/-- a new bucket. -/
theorem part_new {K : Nat → Option Ky} {Z : Nat → Nat} {n : Nat} {l : List Bk} {k : Ky} (h : Part K Z n l) (hk : K n = some k) (hq : ¬ idx l k < l.length) : Part K Z (n + 1) (put Z (l ++ [⟨k, [], n⟩]) l.length n) := by
  have hll : l.length < (l ++ [(⟨k, [], n⟩ : Bk)]).length := by simp
  have hlen : (put Z (l ++ [⟨k, [], n⟩]) l.length n).length = l.length + 1 := by rw [put_len]; simp
  have hidx : ∀ q, idx (put Z (l ++ [⟨k, [], n⟩]) l.length n) q = idx (l ++ [⟨k, [], n⟩]) q := fun q => idx_put Z _ _ n hll q
  have hself : at0 (put Z (l ++ [⟨k, [], n⟩]) l.length n) l.length = ⟨k, [n], n⟩ := by
    unfold put
    rw [at0_set_eq _ hll]
    have := at0_app_eq l ⟨k, [], n⟩
    unfold at0 at this
    rw [this]
    unfold one
    simp
  have hne : ∀ i, i < l.length → at0 (put Z (l ++ [⟨k, [], n⟩]) l.length n) i = at0 l i := fun i hi => by unfold put; rw [at0_set_ne _ (by omega)]; exact at0_app_lt hi
  have hkno : ∀ i, i < l.length → (at0 l i).key ≠ k := fun i hi e => hq (by rw [← e, h.key i hi]; exact hi)
  have hnone : ∀ j, j < n → K j ≠ some k := fun j hj e => hq (h.all j k hj e)
  refine ⟨?_, ?_, ?_, ?_, ?_⟩
  · intro i hi
    rw [hlen] at hi
    rw [hidx]
    rcases Nat.lt_or_ge i l.length with h1 | h1
    · rw [hne i h1, idx_app, h.key i h1, if_pos h1]
    · obtain rfl : i = l.length := by omega
      rw [hself, idx_app, if_neg hq, if_pos rfl]
  · intro i hi
    rw [hlen] at hi
    rcases Nat.lt_or_ge i l.length with h1 | h1
    · rw [hne i h1, h.mem i h1, range_filter_succ]
      have : decide (K n = some (at0 l i).key) = false := by
        rw [decide_eq_false_iff_not, hk]
        intro e2
        cases e2
        exact hkno i h1 rfl
      rw [this]
      simp
    · obtain rfl : i = l.length := by omega
      rw [hself]
      show [n] = (List.range (n + 1)).filter fun j => decide (K j = some k)
      rw [range_filter_succ, hk]
      have : (List.range n).filter (fun j => decide (K j = some k)) = [] := by
        rw [List.filter_eq_nil_iff]
        intro j hj
        simpa using hnone j (List.mem_range.1 hj)
      rw [this]
      simp
  · intro i hi
    rw [hlen] at hi
    rcases Nat.lt_or_ge i l.length with h1 | h1
    · rw [hne i h1]; exact h.rep i h1
    · obtain rfl : i = l.length := by omega
      rw [hself]; simp
  · intro i hi
    rw [hlen] at hi
    rcases Nat.lt_or_ge i l.length with h1 | h1
    · rw [hne i h1]; exact h.min i h1
    · obtain rfl : i = l.length := by omega
      rw [hself]; simp
  · intro j q hj hjq
    rw [hidx, hlen, idx_app]
    rcases Nat.lt_or_ge j n with h1 | h1
    · have := h.all j q h1 hjq
      rw [if_pos this]; omega
    · obtain rfl : j = n := by omega
      rw [hk] at hjq; cases hjq
      rw [if_neg hq, if_pos rfl]; omega
theorem bks_part (K : Nat → Option Ky) (Z : Nat → Nat) : ∀ n, Part K Z n (bks K Z n) := by
  intro n
  induction n with
  | zero => exact ⟨fun i hi => absurd hi (by simp [bks]), fun i hi => absurd hi (by simp [bks]), fun i hi => absurd hi (by simp [bks]), fun i hi => absurd hi (by simp [bks]), fun j k hj => absurd hj (by omega)⟩
  | succ n ih =>
    unfold bks
    cases hk : K n with
    | none => exact part_none ih hk
    | some k =>
      dsimp only
      by_cases hq : idx (bks K Z n) k < (bks K Z n).length
      · have : add (bks K Z n) k n = bks K Z n := if_pos hq
        rw [this]
        exact part_known ih hk hq
      · have e1 : add (bks K Z n) k n = bks K Z n ++ [⟨k, [], n⟩] := if_neg hq
        have e2 : idx (bks K Z n) k = (bks K Z n).length := by have := idx_le (bks K Z n) k; omega
        rw [e1, e2]
        exact part_new ih hk hq
/-- the bucket of an input, counted from 1, among the first b; 0: none. -/
def inB (K : Nat → Option Ky) (l : List Bk) (b i : Nat) : Nat := match K i with | none => 0 | some k => if idx l k < b then idx l k + 1 else 0
theorem inB_zero (K : Nat → Option Ky) (l : List Bk) (i : Nat) : inB K l 0 i = 0 := by
  unfold inB
  split
  · rfl
  · rw [if_neg (by omega)]
section
variable {K : Nat → Option Ky} {Z : Nat → Nat} {n : Nat} {l : List Bk}
theorem Part.mem_iff (h : Part K Z n l) {b i : Nat} (hb : b < l.length) : i ∈ (at0 l b).mem ↔ i < n ∧ K i = some (at0 l b).key := by
  rw [h.mem b hb, List.mem_filter, List.mem_range]; simp
theorem Part.rise (h : Part K Z n l) {b : Nat} (hb : b < l.length) : (at0 l b).mem.Pairwise (· < ·) := by
  rw [h.mem b hb]; exact List.Pairwise.filter _ List.pairwise_lt_range
/-- a member of bucket b is in none of those ahead. -/
theorem Part.ahead (h : Part K Z n l) {b i : Nat} (hb : b < l.length) (hi : i ∈ (at0 l b).mem) : inB K l b i = 0 := by
  have := ((h.mem_iff hb).1 hi).2
  unfold inB
  rw [this]
  dsimp only
  rw [h.key b hb, if_neg (by omega)]
theorem Part.mine (h : Part K Z n l) {b i : Nat} (hb : b < l.length) (hi : i ∈ (at0 l b).mem) : inB K l (b + 1) i = b + 1 := by
  have := ((h.mem_iff hb).1 hi).2
  unfold inB
  rw [this]
  dsimp only
  rw [h.key b hb, if_pos (by omega)]
theorem Part.other (h : Part K Z n l) {b i : Nat} (hb : b < l.length) (hin : i < n) (hi : i ∉ (at0 l b).mem) : inB K l (b + 1) i = inB K l b i := by
  unfold inB
  cases hk : K i with
  | none => rfl
  | some k =>
    dsimp only
    have hne : idx l k ≠ b := by
      intro e
      apply hi
      rw [h.mem_iff hb]
      refine ⟨hin, ?_⟩
      have := h.all i k hin hk
      rw [hk, ← e, idx_self this]
    by_cases h1 : idx l k < b
    · rw [if_pos h1, if_pos (by omega)]
    · rw [if_neg h1, if_neg (by omega)]
/-- in the end: in a bucket just if it crashes; two in one just if their keys are the same. -/
theorem Part.some_iff (h : Part K Z n l) {i : Nat} (hi : i < n) : inB K l l.length i ≠ 0 ↔ K i ≠ none := by
  unfold inB
  cases hk : K i with
  | none => simp
  | some k => dsimp only; rw [if_pos (h.all i k hi hk)]; simp
theorem Part.same_iff (h : Part K Z n l) {i j : Nat} {k q : Ky} (hi : i < n) (hj : j < n) (hk : K i = some k) (hq : K j = some q) : inB K l l.length i = inB K l l.length j ↔ k = q := by
  have h1 := h.all i k hi hk
  have h2 := h.all j q hj hq
  unfold inB
  rw [hk, hq]
  dsimp only
  rw [if_pos h1, if_pos h2]
  constructor
  · intro e
    have e2 : idx l k = idx l q := by omega
    rw [← idx_self h1, ← idx_self h2, e2]
  · rintro rfl; rfl
end
end Bk
end Go.Proofs.YtbmaiioecnmopaaGreatDoor

/-
  THE LAW Parts: reports in memory; two reports' keys. By the verifier of the loop 'triage'.
-/
namespace Go.Proofs.YtbmaiioecnmopaaGreatDoor
open Go.RowKit

def rpAt (ps : List Rp) (i : Nat) : Rp := ps[i]?.getD rz
theorem rpAt_app_lt {l m : List Rp} {i : Nat} (h : i < l.length) : rpAt (l ++ m) i = rpAt l i := by unfold rpAt; rw [List.getElem?_append_left h]
theorem rpAt_app_eq (l : List Rp) (b : Rp) : rpAt (l ++ [b]) l.length = b := by unfold rpAt; simp
def rpc (ps : List Rp) (SV EV : Nat → Value) (o : Nat) : Value :=
  if o % 8 = 0 then .int .i64 ((rpAt ps (o / 8)).fa : Nat) else if o % 8 = 1 then .int .i64 ((rpAt ps (o / 8)).pa : Nat) else if o % 8 = 2 then .int .i64 ((rpAt ps (o / 8)).kd : Nat) else if o % 8 = 3 then .int .i64 ((rpAt ps (o / 8)).en : Nat)
  else if o % 8 = 4 then SV (o / 8) else if o % 8 = 5 then EV (o / 8) else if o % 8 = 6 then .int .i64 ((rpAt ps (o / 8)).k : Nat) else .int .i64 (rpAt ps (o / 8)).top
def rpCs (ps : List Rp) (SV EV : Nat → Value) : List Value := (List.range (ps.length * 8)).map (rpc ps SV EV)
theorem rpCs_get {ps : List Rp} {SV EV : Nat → Value} {o : Nat} (h : o < ps.length * 8) : (rpCs ps SV EV)[o]? = some (rpc ps SV EV o) := by
  unfold rpCs
  rw [List.getElem?_map, List.getElem?_range h]
  rfl
theorem rpCs_len (ps : List Rp) (SV EV : Nat → Value) : (rpCs ps SV EV).length = ps.length * 8 := by simp [rpCs]
structure RpM (base : Nat) (ps : List Rp) (SV EV : Nat → Value) (v : Value) (w : World) : Prop where
  row : w.ownsRow base 39 8 v ps.length (rpCs ps SV EV)
  sts : ∀ i, i < ps.length → w.ownsRow base 34 2 (SV i) (rpAt ps i).sts.length (prs (rpAt ps i).sts)
  eds : ∀ i, i < ps.length → ∃ a n c, EV i = .slice a n c
section
variable {base : Nat} {ps : List Rp} {SV EV : Nat → Value} {v : Value} {w w' : World}
theorem RpM.kept {row : Option Nat} (h : RpM base ps SV EV v w) (hg : w.grownBy w' row) (hr : ∀ k, row = some k → k < base) : RpM base ps SV EV v w' := by
  have far : ∀ {e : TypeId} {z : Nat} {u : Value} {n : Nat} {xs : List Value}, w.ownsRow base e z u n xs → u.ownBlock = none ∨ u.ownBlock ≠ row := by
    intro e z u n xs ho
    rcases hx : u.ownBlock with _ | x
    · exact Or.inl rfl
    · right
      intro e2
      have h1 := (ho.lt x hx).1
      have h2 := hr x e2.symm
      omega
  exact ⟨World.ownsRow.kept h.row hg (far h.row), fun i hi => World.ownsRow.kept (h.sts i hi) hg (far (h.sts i hi)), h.eds⟩
theorem RpM.below (h : RpM base ps SV EV v w) (hb : Below w.heap.size w w') : RpM base ps SV EV v w' := ⟨own_kept h.row hb, fun i hi => own_kept (h.sts i hi) hb, h.eds⟩
theorem RpM.alloc (h : RpM base ps SV EV v w) (o : Obj) : RpM base ps SV EV v (w.alloc o) := h.below ((Below.refl _ _).alloc (Nat.le_refl _) _)
theorem RpM.start (base : Nat) (SV EV : Nat → Value) (w : World) : RpM base [] SV EV (.slice none 0 0) w :=
  ⟨World.ownsRow_nil _ _ _ _, fun i hi => absurd hi (by simp), fun i hi => absurd hi (by simp)⟩
theorem RpM.shape (h : RpM base ps SV EV v w) : ∃ a cap, v = .slice a ps.length cap ∧ ps.length ≤ cap := by
  obtain ⟨_, ⟨rfl, h0⟩ | ⟨g, cap, cur, rfl, hb, hg, hc, _⟩⟩ := h.row
  · exact ⟨none, 0, by rw [h0], by omega⟩
  · exact ⟨_, cap, rfl, hc⟩
theorem RpM.form (h : RpM base ps SV EV v w) (hn : 0 < ps.length) : ∃ g cap, v = .slice (some ⟨g, 0, none⟩) ps.length cap ∧ base ≤ g ∧ g < w.heap.size := by
  obtain ⟨_, ⟨_, h0⟩ | ⟨g, cap, cur, rfl, hb, hg, hc, _⟩⟩ := h.row
  · omega
  · exact ⟨g, cap, rfl, hb, (Array.getElem?_eq_some_iff.1 hg).1⟩
theorem RpM.cell {g cap n : Nat} (h : RpM base ps SV EV (.slice (some ⟨g, 0, none⟩) n cap) w) (hn : n = ps.length) {i : Nat} (hi : i < ps.length) :
    w.cell? ⟨g, i * 8, none⟩ = some (.int .i64 ((rpAt ps i).fa : Nat)) ∧ w.cell? ⟨g, i * 8 + 1, none⟩ = some (.int .i64 ((rpAt ps i).pa : Nat)) ∧ w.cell? ⟨g, i * 8 + 2, none⟩ = some (.int .i64 ((rpAt ps i).kd : Nat)) ∧ w.cell? ⟨g, i * 8 + 3, none⟩ = some (.int .i64 ((rpAt ps i).en : Nat)) ∧
    w.cell? ⟨g, i * 8 + 4, none⟩ = some (SV i) ∧ w.cell? ⟨g, i * 8 + 5, none⟩ = some (EV i) ∧ w.cell? ⟨g, i * 8 + 6, none⟩ = some (.int .i64 ((rpAt ps i).k : Nat)) ∧ w.cell? ⟨g, i * 8 + 7, none⟩ = some (.int .i64 (rpAt ps i).top) := by
  subst hn
  have c : ∀ r, r < 8 → w.cell? ⟨g, i * 8 + r, none⟩ = some (rpc ps SV EV (i * 8 + r)) := fun r hr => by rw [h.row.cellAt _ (by omega), rpCs_get (by omega)]
  have hd : ∀ r, r < 8 → (i * 8 + r) / 8 = i := fun r hr => by omega
  have hm : ∀ r, r < 8 → (i * 8 + r) % 8 = r := fun r hr => by omega
  refine ⟨?_, ?_, ?_, ?_, ?_, ?_, ?_, ?_⟩
  · have := c 0 (by omega); unfold rpc at this; rw [hd 0 (by omega), hm 0 (by omega)] at this; exact this
  · rw [c 1 (by omega)]; unfold rpc; rw [hd 1 (by omega), hm 1 (by omega)]; rfl
  · rw [c 2 (by omega)]; unfold rpc; rw [hd 2 (by omega), hm 2 (by omega)]; rfl
  · rw [c 3 (by omega)]; unfold rpc; rw [hd 3 (by omega), hm 3 (by omega)]; rfl
  · rw [c 4 (by omega)]; unfold rpc; rw [hd 4 (by omega), hm 4 (by omega)]; rfl
  · rw [c 5 (by omega)]; unfold rpc; rw [hd 5 (by omega), hm 5 (by omega)]; rfl
  · rw [c 6 (by omega)]; unfold rpc; rw [hd 6 (by omega), hm 6 (by omega)]; rfl
  · rw [c 7 (by omega)]; unfold rpc; rw [hd 7 (by omega), hm 7 (by omega)]; rfl
/-- a report behind the others. -/
theorem RpM.app (h : RpM base ps SV EV v w) (h1 : 39 ≠ 34) {p : Rp} {u v' : Value} {a : Option Addr} {n c : Nat} (hu : w.ownsRow base 34 2 u p.sts.length (prs p.sts))
    (hown : w'.ownsRow base 39 8 v' (ps.length + 1) (rpCs ps SV EV ++ [.int .i64 (p.fa : Nat), .int .i64 (p.pa : Nat), .int .i64 (p.kd : Nat), .int .i64 (p.en : Nat), u, .slice a n c, .int .i64 (p.k : Nat), .int .i64 p.top])) (hg : w.grownBy w' v.ownBlock) :
    RpM base (ps ++ [p]) (updF SV ps.length u) (updF EV ps.length (.slice a n c)) v' w' := by
  have hl : (ps ++ [p]).length = ps.length + 1 := by simp
  refine ⟨?_, ?_, ?_⟩
  · rw [hl]
    have e : rpCs (ps ++ [p]) (updF SV ps.length u) (updF EV ps.length (.slice a n c)) = rpCs ps SV EV ++ [.int .i64 (p.fa : Nat), .int .i64 (p.pa : Nat), .int .i64 (p.kd : Nat), .int .i64 (p.en : Nat), u, .slice a n c, .int .i64 (p.k : Nat), .int .i64 p.top] := by
      apply List.ext_getElem?
      intro o
      by_cases ho : o < (ps.length + 1) * 8
      · rw [rpCs_get (by rw [hl]; exact ho)]
        by_cases ho2 : o < ps.length * 8
        · rw [List.getElem?_append_left (by rw [rpCs_len]; exact ho2), rpCs_get ho2]
          unfold rpc
          rw [rpAt_app_lt (by omega), updF_ne _ _ (by omega), updF_ne _ _ (by omega)]
        · rw [List.getElem?_append_right (by rw [rpCs_len]; omega), rpCs_len]
          unfold rpc
          rw [show o / 8 = ps.length from by omega, rpAt_app_eq, updF_eq, updF_eq]
          obtain ⟨r, hr, rfl⟩ : ∃ r, r < 8 ∧ o = ps.length * 8 + r := ⟨o - ps.length * 8, by omega, by omega⟩
          rw [show (ps.length * 8 + r) % 8 = r from by omega, show ps.length * 8 + r - ps.length * 8 = r from by omega]
          obtain rfl | rfl | rfl | rfl | rfl | rfl | rfl | rfl : r = 0 ∨ r = 1 ∨ r = 2 ∨ r = 3 ∨ r = 4 ∨ r = 5 ∨ r = 6 ∨ r = 7 := by omega
          all_goals rfl
      · rw [List.getElem?_eq_none (by rw [rpCs_len, hl]; omega), List.getElem?_eq_none (by rw [List.length_append, rpCs_len]; simp; omega)]
    rw [e]
    exact hown
  · intro j hj
    rw [hl] at hj
    by_cases hjn : j = ps.length
    · subst hjn
      rw [rpAt_app_eq, updF_eq]
      exact World.ownsRow.kept hu hg (owns_kind hu h.row (Ne.symm h1))
    · rw [rpAt_app_lt (by omega), updF_ne _ _ hjn]
      exact World.ownsRow.kept (h.sts j (by omega)) hg (owns_kind (h.sts j (by omega)) h.row (Ne.symm h1))
  · intro j hj
    rw [hl] at hj
    by_cases hjn : j = ps.length
    · subst hjn; rw [updF_eq]; exact ⟨_, _, _, rfl⟩
    · rw [updF_ne _ _ hjn]; exact h.eds j (by omega)
end
/-! two lists, as far as a depth goes. -/
theorem take_same_end {α : Type} {A B : List α} {t : Nat} (h : A.take t = B.take t) (hA : A.length ≤ t) (hB : B.length ≤ t) : A.take (t + 1) = B.take (t + 1) := by
  rw [List.take_of_length_le hA, List.take_of_length_le hB] at h
  rw [h]
theorem take_len_ne {α : Type} {A B : List α} {t d : Nat} (ht : t < d) (h1 : t < A.length) (h2 : ¬ t < B.length) : A.take d ≠ B.take d := by
  intro e
  have := congrArg List.length e
  simp only [List.length_take] at this
  omega
theorem take_get_ne {A B : List (Nat × Nat)} {t d : Nat} (ht : t < d) (h : A[t]?.getD (0, 0) ≠ B[t]?.getD (0, 0)) : A.take d ≠ B.take d := by
  intro e
  apply h
  have := congrArg (fun l : List (Nat × Nat) => l[t]?) e
  simp only [List.getElem?_take_of_lt ht] at this
  rw [this]
end Go.Proofs.YtbmaiioecnmopaaGreatDoor
