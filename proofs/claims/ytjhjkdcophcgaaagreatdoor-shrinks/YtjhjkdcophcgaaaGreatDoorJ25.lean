/-
  PureS, ShA, KeyA, PureF, KeyB: THESE TEXTS, JOINED. By the verifier of the loop 'triage'.
-/
import Derived.Test.YtjhjkdcophcgaaaGreatDoorJ01
import Derived.BigQuiet
import Derived.Test.YtjhjkdcophcgaaaGreatDoorJ24
import Derived.Test.YtjhjkdcophcgaaaGreatDoorJ23
/-
  THE PLAIN MATHEMATICS of shrinking: nothing of the dump. By the verifier of the loop 'triage'.
-/
namespace Go.Proofs.YtjhjkdcophcgaaaGreatDoor
namespace Sh

/-- a text without its byte i. -/
def cut (t : ByteArray) (i : Nat) : ByteArray := t.extract 0 i ++ t.extract (i + 1) t.size
/-- a text whose byte i is 0. -/
def blk (t : ByteArray) (i : Nat) : ByteArray := t.extract 0 i ++ (⟨#[0]⟩ : ByteArray) ++ t.extract (i + 1) t.size
theorem cut_list (t : ByteArray) (i : Nat) : (cut t i).data.toList = t.data.toList.take i ++ t.data.toList.drop (i + 1) := by
  unfold cut
  simp only [ByteArray.data_append, ByteArray.data_extract, Array.toList_append, Array.toList_extract]
  simp [List.extract, List.take_of_length_le]
theorem blk_list (t : ByteArray) (i : Nat) : (blk t i).data.toList = t.data.toList.take i ++ 0 :: t.data.toList.drop (i + 1) := by
  unfold blk
  simp only [ByteArray.data_append, ByteArray.data_extract, Array.toList_append, Array.toList_extract]
  simp [List.extract, List.take_of_length_le]
theorem size_list (t : ByteArray) : t.data.toList.length = t.size := by cases t; rfl
theorem cut_size (t : ByteArray) (i : Nat) (h : i < t.size) : (cut t i).size = t.size - 1 := by
  rw [← size_list, cut_list]; simp; omega
theorem blk_size (t : ByteArray) (i : Nat) (h : i < t.size) : (blk t i).size = t.size := by
  rw [← size_list, blk_list]; simp; omega

/-- y comes from x by taking bytes out and turning some into 0. -/
inductive Frm : List UInt8 → List UInt8 → Prop
  | nil : Frm [] []
  | drop {y x b} : Frm y x → Frm y (b :: x)
  | keep {y x b} : Frm y x → Frm (b :: y) (b :: x)
  | zero {y x b} : Frm y x → Frm (0 :: y) (b :: x)
theorem Frm.refl (x : List UInt8) : Frm x x := by
  induction x with
  | nil => exact .nil
  | cons b x ih => exact .keep ih
theorem Frm.tail {a : UInt8} {y x : List UInt8} (h : Frm (a :: y) x) : Frm y x := by
  generalize hz : a :: y = z at h
  induction h with
  | nil => cases hz
  | drop _ ih => exact .drop (ih hz)
  | keep h _ => cases hz; exact .drop h
  | zero h _ => cases hz; exact .drop h
theorem Frm.trans {z y x : List UInt8} (h : Frm z y) (g : Frm y x) : Frm z x := by
  induction g generalizing z with
  | nil => exact h
  | drop _ ih => exact .drop (ih h)
  | keep _ ih =>
    cases h with
    | drop h => exact .drop (ih h)
    | keep h => exact .keep (ih h)
    | zero h => exact .zero (ih h)
  | zero _ ih =>
    cases h with
    | drop h => exact .drop (ih h)
    | keep h => exact .zero (ih h)
    | zero h => exact .zero (ih h)
theorem frm_cut (l : List UInt8) (i : Nat) (h : i < l.length) : Frm (l.take i ++ l.drop (i + 1)) l := by
  induction l generalizing i with
  | nil => simp at h
  | cons b l ih =>
    cases i with
    | zero => simp; exact .drop (Frm.refl _)
    | succ i => simp only [List.take_succ_cons, List.drop_succ_cons, List.cons_append]; exact .keep (ih i (by simpa using h))
theorem frm_blk (l : List UInt8) (i : Nat) (h : i < l.length) : Frm (l.take i ++ 0 :: l.drop (i + 1)) l := by
  induction l generalizing i with
  | nil => simp at h
  | cons b l ih =>
    cases i with
    | zero => simp; exact .zero (Frm.refl _)
    | succ i => simp only [List.take_succ_cons, List.drop_succ_cons, List.cons_append]; exact .keep (ih i (by simpa using h))
theorem Frm.len {y x : List UInt8} (h : Frm y x) : y.length ≤ x.length := by
  induction h with
  | nil => simp
  | drop _ ih => simp; omega
  | keep _ ih => simp; omega
  | zero _ ih => simp; omega
/-- a step of the greedy look. -/
theorem frm_step {a b : UInt8} {y x : List UInt8} (h : Frm (a :: y) (b :: x)) (hab : a = b ∨ a = 0) : Frm y x := by
  cases h with
  | drop h => exact h.tail
  | keep h => exact h
  | zero h => exact h
theorem frm_skip {a b : UInt8} {y x : List UInt8} (h : Frm (a :: y) (b :: x)) (hab : ¬ (a = b ∨ a = 0)) : Frm (a :: y) x := by
  cases h with
  | drop h => exact h
  | keep h => exact absurd (Or.inl rfl) hab
  | zero h => exact absurd (Or.inr rfl) hab

/-- the bytes, and those that are not 0. -/
def mu (l : List UInt8) : Nat := l.length + (l.filter (· != 0)).length
theorem mu_app (a b : List UInt8) : mu (a ++ b) = mu a + mu b := by unfold mu; simp; omega
theorem list_split (l : List UInt8) (i : Nat) (h : i < l.length) : l = l.take i ++ l[i] :: l.drop (i + 1) := by
  have : l[i] :: l.drop (i + 1) = l.drop i := (List.drop_eq_getElem_cons h).symm
  rw [this, List.take_append_drop]
theorem mu_cut (l : List UInt8) (i : Nat) (h : i < l.length) : mu (l.take i ++ l.drop (i + 1)) < mu l := by
  have e : mu l = mu (l.take i ++ l[i] :: l.drop (i + 1)) := by rw [← list_split l i h]
  rw [e, mu_app, mu_app]
  have : mu (l[i] :: l.drop (i + 1)) = mu [l[i]] + mu (l.drop (i + 1)) := mu_app [l[i]] _
  have h1 : 1 ≤ mu [l[i]] := by unfold mu; simp
  omega
theorem mu_blk (l : List UInt8) (i : Nat) (h : i < l.length) (hn : l.take i ++ 0 :: l.drop (i + 1) ≠ l) : mu (l.take i ++ 0 :: l.drop (i + 1)) < mu l := by
  have e : mu l = mu (l.take i ++ l[i] :: l.drop (i + 1)) := by rw [← list_split l i h]
  have h0 : l[i] ≠ 0 := by
    intro h0
    apply hn
    rw [← h0]
    exact (list_split l i h).symm
  rw [e, mu_app, mu_app]
  have e1 : mu (l[i] :: l.drop (i + 1)) = mu [l[i]] + mu (l.drop (i + 1)) := mu_app [l[i]] _
  have e2 : mu (0 :: l.drop (i + 1)) = mu [0] + mu (l.drop (i + 1)) := mu_app [0] _
  have h1 : mu [l[i]] = 2 := by unfold mu; simp [h0]
  have h2 : mu [(0 : UInt8)] = 1 := by unfold mu; simp
  omega
def muB (t : ByteArray) : Nat := mu t.data.toList
theorem ext_list {a b : ByteArray} (h : a.data.toList = b.data.toList) : a = b := by
  cases a; cases b; cases Array.toList_inj.1 h; rfl

/-- one step of a round, at byte i. -/
def stp (H : ByteArray → Bool) (t : ByteArray) (i : Nat) : ByteArray :=
  if H (cut t i) then cut t i else if blk t i ≠ t ∧ H (blk t i) = true then blk t i else t
/-- a round: over the bytes below n, the last one first. -/
def rnd (H : ByteArray → Bool) : Nat → ByteArray → ByteArray
  | 0, t => t
  | n + 1, t => rnd H n (stp H t n)
/-- what holds of all texts of a shrinking: it comes from x, and its run has the key. -/
structure Inv (H : ByteArray → Bool) (x t : ByteArray) : Prop where
  frm : Frm t.data.toList x.data.toList
  hit : H t = true
theorem Inv.size {H : ByteArray → Bool} {x t : ByteArray} (h : Inv H x t) : t.size ≤ x.size := by
  have := h.frm.len
  rwa [size_list, size_list] at this
theorem inv_stp {H : ByteArray → Bool} {x t : ByteArray} (h : Inv H x t) (i : Nat) (hi : i < t.size) : Inv H x (stp H t i) ∧ i ≤ (stp H t i).size ∧ (stp H t i = t ∨ muB (stp H t i) < muB t) := by
  have hl : i < t.data.toList.length := by rw [size_list]; exact hi
  unfold stp
  split
  · rename_i hc
    refine ⟨⟨?_, hc⟩, by rw [cut_size t i hi]; omega, Or.inr ?_⟩
    · rw [cut_list]; exact (frm_cut _ i hl).trans h.frm
    · unfold muB; rw [cut_list]; exact mu_cut _ i hl
  · split
    · rename_i hc
      refine ⟨⟨?_, hc.2⟩, by rw [blk_size t i hi]; omega, Or.inr ?_⟩
      · rw [blk_list]; exact (frm_blk _ i hl).trans h.frm
      · unfold muB; rw [blk_list]
        refine mu_blk _ i hl fun he => hc.1 (ext_list ?_)
        rw [blk_list]; exact he
    · exact ⟨h, by omega, Or.inl rfl⟩
theorem inv_rnd {H : ByteArray → Bool} {x : ByteArray} : ∀ n t, Inv H x t → n ≤ t.size → Inv H x (rnd H n t) ∧ muB (rnd H n t) ≤ muB t ∧ (rnd H n t = t ∨ muB (rnd H n t) < muB t) ∧ (rnd H n t = t → ∀ i, i < n → stp H t i = t) := by
  intro n
  induction n with
  | zero => intro t h _; exact ⟨h, Nat.le_refl _, Or.inl rfl, fun _ i hi => by omega⟩
  | succ n ih =>
    intro t h hn
    obtain ⟨h1, h2, h3⟩ := inv_stp h n (by omega)
    obtain ⟨g1, g2, g3, g4⟩ := ih _ h1 h2
    show Inv H x (rnd H n (stp H t n)) ∧ muB (rnd H n (stp H t n)) ≤ muB t ∧ (rnd H n (stp H t n) = t ∨ muB (rnd H n (stp H t n)) < muB t) ∧ (rnd H n (stp H t n) = t → ∀ i, i < n + 1 → stp H t i = t)
    have hle : muB (stp H t n) ≤ muB t := by
      rcases h3 with h3 | h3
      · rw [h3]; exact Nat.le_refl _
      · omega
    refine ⟨g1, by omega, ?_, ?_⟩
    · rcases h3 with h3 | h3
      · rw [h3] at g3 ⊢; exact g3
      · exact Or.inr (by omega)
    · intro he i hi
      rcases h3 with h3 | h3
      · rw [h3] at g4 he
        rcases Nat.lt_or_ge i n with hlt | hge
        · exact g4 he i hlt
        · obtain rfl : i = n := by omega
          exact h3
      · rw [he] at g2; omega
/-- a text that a whole round leaves as it is: nothing smaller of it has the key. -/
structure Done (H : ByteArray → Bool) (x t : ByteArray) : Prop where
  inv : Inv H x t
  cuts : ∀ i, i < t.size → H (cut t i) = false
  blks : ∀ i, i < t.size → t.data.toList[i]?.getD 0 ≠ 0 → H (blk t i) = false
theorem blk_ne (t : ByteArray) (i : Nat) (h : i < t.size) (h0 : t.data.toList[i]?.getD 0 ≠ 0) : blk t i ≠ t := by
  intro he
  have := congrArg (fun b => b.data.toList[i]?.getD 0) he
  simp only [blk_list] at this
  rw [List.getElem?_append_right (by rw [List.length_take]; omega)] at this
  have hl : i < t.data.toList.length := by rw [size_list]; exact h
  rw [List.length_take, Nat.min_eq_left (by omega), Nat.sub_self] at this
  simp at this
  exact h0 (by simpa using this.symm)
theorem done_of {H : ByteArray → Bool} {x t : ByteArray} (h : Inv H x t) (he : rnd H t.size t = t) : Done H x t := by
  have h4 := (inv_rnd t.size t h (Nat.le_refl _)).2.2.2 he
  refine ⟨h, ?_, ?_⟩
  · intro i hi
    have := h4 i hi
    unfold stp at this
    split at this
    · have h2 := congrArg ByteArray.size this
      rw [cut_size t i hi] at h2
      omega
    · rename_i hc; simpa using hc
  · intro i hi h0
    have := h4 i hi
    unfold stp at this
    split at this
    · have h2 := congrArg ByteArray.size this
      rw [cut_size t i hi] at h2
      omega
    · split at this
      · rename_i hc; exact absurd this hc.1
      · rename_i hc
        have hne := blk_ne t i hi h0
        cases hb : H (blk t i) with
        | false => rfl
        | true => exact absurd ⟨hne, hb⟩ hc
end Sh
end Go.Proofs.YtjhjkdcophcgaaaGreatDoor

/-
  THE DOCUMENT's SIDE (package triageref): From. By the verifier of the loop 'triage'.
-/
namespace Go.Proofs.YtjhjkdcophcgaaaGreatDoor
open Go.RowKit

theorem drop_bt (y : ByteArray) (a : Nat) (h : a < y.size) : ∃ u : UInt8, u.toNat = Im.bt y a ∧ y.data.toList.drop a = u :: y.data.toList.drop (a + 1) := by
  have hl : a < y.data.toList.length := by rw [Sh.size_list]; exact h
  refine ⟨y.data.toList[a], ?_, List.drop_eq_getElem_cons hl⟩
  rw [← Im.bt_eq y a h]
  rfl
theorem from_step (y x : ByteArray) (a b : Nat) (ha : a < y.size) (hb : b < x.size) (h : Sh.Frm (y.data.toList.drop a) (x.data.toList.drop b)) :
    (Im.bt y a = Im.bt x b ∨ Im.bt y a = 0 → Sh.Frm (y.data.toList.drop (a + 1)) (x.data.toList.drop (b + 1))) ∧ (¬ (Im.bt y a = Im.bt x b ∨ Im.bt y a = 0) → Sh.Frm (y.data.toList.drop a) (x.data.toList.drop (b + 1))) := by
  obtain ⟨u, hu, eu⟩ := drop_bt y a ha
  obtain ⟨v, hv, ev⟩ := drop_bt x b hb
  rw [eu, ev] at h
  constructor
  · intro hh
    refine Sh.frm_step h ?_
    rw [← hu, ← hv] at hh
    rcases hh with hh | hh
    · exact Or.inl (UInt8.toNat_inj.1 hh)
    · exact Or.inr (UInt8.toNat_inj.1 (by simpa using hh))
  · intro hh
    rw [eu]
    refine Sh.frm_skip h ?_
    rw [← hu, ← hv] at hh
    rintro (e | e)
    · exact hh (Or.inl (by rw [e]))
    · exact hh (Or.inr (by rw [e]; rfl))
theorem frm_nil {y x : List UInt8} (h : Sh.Frm y x) (hx : x = []) : y = [] := by subst hx; cases h; rfl

theorem below_drewP {B : Nat} {w w' : World} (q : Nat) (h : Below B w w') : Below B w (w'.drewN q) := ⟨h.os, h.tape, h.output, h.size, h.block⟩
set_option maxHeartbeats 1600000 in
theorem from_any (y x : ByteArray) (w : World) (hy : y.size ≤ 1000) (hx : x.size ≤ 1000) (h : Sh.Frm y.data.toList x.data.toList) :
    Calls Tryz.prog 32 #[.string y, .string x] w fun e w' => e = .returned (.bool true) ∧ Below w.heap.size w w' := by
  go_enter Tryz.func32, Tryz.ntmps32
  go_wp2
  go_loopw [5, 6] (fun i k wr => ∃ a b : Nat, i = .int .i64 a ∧ k = .int .i64 b ∧ a ≤ y.size ∧ b ≤ x.size ∧ Sh.Frm (y.data.toList.drop a) (x.data.toList.drop b) ∧ Below w.heap.size w wr) (fun _ k _ => x.size - (intOf k).toNat)
  case atStart => exact ⟨0, 0, rfl, rfl, by omega, by omega, by simpa using h, Below.refl _ _⟩
  case round =>
    obtain ⟨a, b, rfl, rfl, ha, hb, hF, hB⟩ := hrel
    by_cases hlt : b < x.size ∧ a < y.size
    · obtain ⟨hbx, hay⟩ := hlt
      obtain ⟨s1, s2⟩ := from_step y x a b hay hbx hF
      have e1 := Im.bt_eq y a hay
      have e2 := Im.bt_eq x b hbx
      generalize Im.bt y a = p at *
      generalize Im.bt x b = q at *
      have HB : Hid (Below w.heap.size w wr) := hB
      by_cases hpq : p = q ∨ p = 0
      · have HF : Hid (Sh.Frm (y.data.toList.drop (a + 1)) (x.data.toList.drop (b + 1))) := s1 hpq
        clear s1 s2 hF hB
        by_cases hp0 : p = q
        · have hq : (((p : Nat) : Int) == ((q : Nat) : Int)) = true := by simp [hp0]
          go_wp2
          go_quiet (fail)
          go_wp2
          go_roundw
          case rel => exact ⟨a + 1, b + 1, by go_num, by go_num, by omega, by omega, HF.out, by first | exact HB.out | exact below_drewP _ HB.out⟩
          case measure => simp [intOf]; omega
        · have hq : (((p : Nat) : Int) == ((q : Nat) : Int)) = false := by simp; omega
          have hz : (((p : Nat) : Int) == 0) = true := by simp; omega
          go_wp2
          go_quiet (fail)
          go_wp2
          go_roundw
          case rel => exact ⟨a + 1, b + 1, by go_num, by go_num, by omega, by omega, HF.out, by first | exact HB.out | exact below_drewP _ HB.out⟩
          case measure => simp [intOf]; omega
      · have HF : Hid (Sh.Frm (y.data.toList.drop a) (x.data.toList.drop (b + 1))) := s2 hpq
        clear s1 s2 hF hB
        have hp1 : ¬ p = q := fun e => hpq (Or.inl e)
        have hp2 : ¬ p = 0 := fun e => hpq (Or.inr e)
        have hq : (((p : Nat) : Int) == ((q : Nat) : Int)) = false := by simp; omega
        have hz : (((p : Nat) : Int) == 0) = false := by simp; omega
        go_wp2
        go_quiet (fail)
        go_wp2
        go_roundw
        case rel => exact ⟨a, b + 1, by go_num, by go_num, by omega, by omega, HF.out, by first | exact HB.out | exact below_drewP _ HB.out⟩
        case measure => simp [intOf]; omega
    · have hae : a = y.size := by
        rcases Nat.lt_or_ge b x.size with h1 | h1
        · omega
        · have := frm_nil hF (List.drop_of_length_le (by rw [Sh.size_list]; exact h1))
          have := congrArg List.length this
          simp at this
          omega
      subst hae
      clear hF
      by_cases hbx : b < x.size
      all_goals
        go_wp2
        go_ret
        exact ⟨rfl, hB⟩
end Go.Proofs.YtjhjkdcophcgaaaGreatDoor

/-
  THE DOCUMENT's SIDE (package triageref): SameSites of any two lists, Same, KeyOf, hits. By the verifier of the loop 'triage'.
-/
namespace Go.Proofs.YtjhjkdcophcgaaaGreatDoor
open Go.RowKit

theorem owns_takeA {w : World} {base : Nat} {e : TypeId} {size : Nat} {a : Option Addr} {n cap : Nat} {xs : List Value} (h : w.ownsRow base e size (.slice a n cap) n xs) (m : Nat) (hm : m ≤ n) : w.ownsRow base e size (.slice a m cap) m (xs.take (m * size)) := by
  obtain ⟨h1, ⟨hv, h0⟩ | ⟨g, c, cur, hv, hb, hg, hnc, hcm, hcs, ht⟩⟩ := h
  · obtain rfl : m = 0 := by omega
    cases hv
    simp
    exact World.ownsRow_nil _ _ _ _
  · cases hv
    refine ⟨by rw [List.length_take, h1]; exact Nat.min_eq_left (Nat.mul_le_mul_right _ hm), Or.inr ⟨g, cap, cur, rfl, hb, hg, by omega, hcm, hcs, ?_⟩⟩
    rw [← ht, List.take_take, Nat.min_eq_left (Nat.mul_le_mul_right _ hm)]
theorem take_ext {α : Type} [DecidableEq α] {l m : List α} {j : Nat} (hl : j < l.length) (hm : j < m.length) (d : α) (h : l.take j = m.take j) (hx : l[j]?.getD d = m[j]?.getD d) : l.take (j + 1) = m.take (j + 1) := by
  rw [List.take_add_one, List.take_add_one, h, List.getElem?_eq_getElem hl, List.getElem?_eq_getElem hm]
  rw [List.getElem?_eq_getElem hl, List.getElem?_eq_getElem hm] at hx
  simp at hx
  rw [hx]

set_option maxHeartbeats 3200000 in
set_option maxRecDepth 100000 in
theorem sameSites_dec (A B : Nat) (a b : Value) (l m : List (Nat × Nat)) (w : World) (hl : l.length ≤ 100) (hm : m.length ≤ 100) (ha : w.ownsRow A 86 2 a l.length (prs l)) (hb : w.ownsRow B 86 2 b m.length (prs m)) :
    Calls Tryz.prog 99 #[a, b] w fun e w' => e = .returned (.bool (decide (l = m))) ∧ Below w.heap.size w w' := by
  obtain ⟨a1, cap1, hv1, hn1, hm1, hc1⟩ := owns_shape ha
  obtain ⟨a2, cap2, hv2, hn2, hm2, hc2⟩ := owns_shape hb
  subst hv1 hv2
  clear ha hb hn1 hm1 hn2 hm2
  by_cases hlen : l.length = m.length
  · obtain ⟨len, HLEN⟩ : ∃ len, Hid (l.length = len) := ⟨_, rfl⟩
    have HLEM : Hid (m.length = len) := hlen.symm.trans HLEN.out
    rw [HLEN.out] at hc1 hl
    rw [HLEM.out] at hc2 hm
    rw [HLEN.out, HLEM.out]
    obtain ⟨D, HD⟩ : ∃ D, Hid (decide (l = m) = D) := ⟨_, rfl⟩
    rw [HD.out]
    clear hlen
    go_enter Tryz.func99, Tryz.ntmps99
    go_wp2
    go_loopw [5] (fun i wr => ∃ j : Nat, i = .int .i64 j ∧ j ≤ len ∧ l.take j = m.take j ∧ Below w.heap.size w wr) (fun i _ => len - (intOf i).toNat)
    case atStart => exact ⟨0, rfl, by omega, rfl, Below.refl _ _⟩
    case round =>
      obtain ⟨j, rfl, hj, hT, hB⟩ := hrel
      by_cases hlt : j < len
      · obtain ⟨g1, rfl, -, hg1, hx1⟩ := hc1 (by omega)
        obtain ⟨g2, rfl, -, hg2, hx2⟩ := hc2 (by omega)
        obtain ⟨q0, q1⟩ := prs_get l j (by rw [HLEN.out]; exact hlt)
        obtain ⟨r0, r1⟩ := prs_get m j (by rw [HLEM.out]; exact hlt)
        have x1 := (hB.cell (p := ⟨g1, j * 2, none⟩) hg1).trans (hx1 _ _ q0)
        have x2 := (hB.cell (p := ⟨g2, j * 2, none⟩) hg2).trans (hx2 _ _ r0)
        have y1 := (hB.cell (p := ⟨g1, j * 2 + 1, none⟩) hg1).trans (hx1 _ _ q1)
        have y2 := (hB.cell (p := ⟨g2, j * 2 + 1, none⟩) hg2).trans (hx2 _ _ r1)
        have HT : Hid (l[j]?.getD (0, 0) = m[j]?.getD (0, 0) → l.take (j + 1) = m.take (j + 1)) := fun h => take_ext (by rw [HLEN.out]; exact hlt) (by rw [HLEM.out]; exact hlt) (0, 0) hT h
        have HN : Hid (l[j]?.getD (0, 0) ≠ m[j]?.getD (0, 0) → D = false) := by
          show l[j]?.getD (0, 0) ≠ m[j]?.getD (0, 0) → D = false
          intro h
          rw [← HD.out]
          exact decide_eq_false fun e => h (by rw [e])
        generalize l[j]?.getD (0, 0) = x at *
        generalize m[j]?.getD (0, 0) = y at *
        obtain ⟨xa, xb⟩ := x
        obtain ⟨ya, yb⟩ := y
        dsimp only at x1 x2 y1 y2
        have HB : Hid _ := hB
        clear hc1 hc2 hx1 hx2 hB q0 q1 r0 r1 hT
        by_cases h1 : xa = ya
        · subst h1
          by_cases h2 : xb = yb
          · subst h2
            have HT2 : Hid (l.take (j + 1) = m.take (j + 1)) := HT.out rfl
            clear HT HN
            go_wp2
            go_quiet (fail)
            go_wp2
            go_roundw
            case rel => exact ⟨j + 1, by go_num, by omega, HT2.out, by first | exact HB.out | exact below_drewP _ HB.out | exact below_drewP _ (below_drewP _ HB.out)⟩
            case measure => simp [intOf]; omega
          · have b2 : (((xb : Nat) : Int) == ((yb : Nat) : Int)) = false := by simp; omega
            have b3 : (((xb : Nat) : Int) != ((yb : Nat) : Int)) = true := by simp; omega
            have HF : Hid (D = false) := HN.out (by rintro ⟨⟩; exact h2 rfl)
            clear HT HN
            go_wp2
            go_quiet (fail)
            go_wp2
            go_ret
            exact ⟨by rw [HF.out]; first | done | rfl, by first | exact HB.out | exact below_drewP _ HB.out | exact below_drewP _ (below_drewP _ HB.out)⟩
        · have b1 : (((xa : Nat) : Int) == ((ya : Nat) : Int)) = false := by simp; omega
          have b3 : (((xa : Nat) : Int) != ((ya : Nat) : Int)) = true := by simp; omega
          have HF : Hid (D = false) := HN.out (by rintro ⟨⟩; exact h1 rfl)
          clear HT HN
          go_wp2
          go_quiet (fail)
          go_wp2
          go_ret
          exact ⟨by rw [HF.out]; first | done | rfl, by first | exact HB.out | exact below_drewP _ HB.out | exact below_drewP _ (below_drewP _ HB.out)⟩
      · obtain rfl : j = len := by omega
        have HF : Hid (D = true) := by
          show D = true
          rw [← HD.out, decide_eq_true_iff]
          rwa [List.take_of_length_le (by rw [HLEN.out]; omega), List.take_of_length_le (by rw [HLEM.out]; omega)] at hT
        have HB : Hid _ := hB
        clear hc1 hc2 hB hT
        go_wp2
        go_ret
        exact ⟨by rw [HF.out]; first | done | rfl, HB.out⟩
  · have hd : decide (l = m) = false := decide_eq_false fun e => hlen (by rw [e])
    rw [hd]
    have hb1 : ((l.length : Int) == (m.length : Int)) = false := by simp; omega
    clear hc1 hc2
    go_enter Tryz.func99, Tryz.ntmps99
    go_wp2
    go_ret
    exact ⟨rfl, Below.refl _ _⟩

theorem two_new {w w1 : World} {o1 o2 : Obj} (hb : Below ((w.alloc o1).alloc o2).heap.size ((w.alloc o1).alloc o2) w1) : w1.heap[w.heap.size]? = some o1 ∧ w1.heap[w.heap.size + 1]? = some o2 := by
  constructor
  · exact (hb.block _ (by simp; omega)).trans ((Below.heap_alloc _ _ _ (by simp)).trans (rheap_new _ _))
  · have := rheap_new (w.alloc o1) o2
    simp only [World.size_alloc] at this
    exact (hb.block _ (by simp)).trans this
theorem below_two {w w1 : World} {o1 o2 : Obj} (hb : Below ((w.alloc o1).alloc o2).heap.size ((w.alloc o1).alloc o2) w1) : Below w.heap.size w w1 := below_new (below_new hb)
/-- a key, as a value of the document's type. -/
def KeyV (B : Nat) (w : World) (k : Nat × List (Nat × Nat)) (v : Value) : Prop := ∃ u, v = .agg #[.int .i64 (k.1 : Nat), u] ∧ w.ownsRow B 86 2 u k.2.length (prs k.2)

set_option maxHeartbeats 800000 in
theorem same_any (A B : Nat) (a b : Value) (k q : Nat × List (Nat × Nat)) (w : World) (hk : k.2.length ≤ 100) (hq : q.2.length ≤ 100) (ha : KeyV A w k a) (hb : KeyV B w q b) :
    Calls Tryz.prog 58 #[a, b] w fun e w' => e = .returned (.bool (decide (k = q))) ∧ Below w.heap.size w w' := by
  obtain ⟨u, rfl, hu⟩ := ha
  obtain ⟨v, rfl, hv⟩ := hb
  obtain ⟨a1, cap1, hv1, -, -, -⟩ := owns_shape hu
  obtain ⟨a2, cap2, hv2, -, -, -⟩ := owns_shape hv
  subst hv1 hv2
  obtain ⟨k1, k2⟩ := k
  obtain ⟨q1, q2⟩ := q
  dsimp only at *
  have HU : Hid (w.ownsRow A 86 2 (.slice a1 k2.length cap1) k2.length (prs k2)) := hu
  have HV : Hid (w.ownsRow B 86 2 (.slice a2 q2.length cap2) q2.length (prs q2)) := hv
  clear hu hv
  go_enter Tryz.func58, Tryz.ntmps58
  go_wp2_with fail
  refine (sameSites_dec A B _ _ k2 q2 _ hk hq ((HU.out.alloc _).alloc _) ((HV.out.alloc _).alloc _)).mono ?_
  rintro e w1 ⟨rfl, hb⟩
  obtain ⟨c1, c2⟩ := two_new hb
  have x1 : w1.cell? ⟨w.heap.size, 0, none⟩ = some (.int .i64 (k1 : Nat)) := rcell_of c1 rfl
  have x2 : w1.cell? ⟨w.heap.size + 1, 0, none⟩ = some (.int .i64 (q1 : Nat)) := rcell_of c2 rfl
  have HB : Hid (Below w.heap.size w w1) := below_two hb
  clear hb HU HV c1 c2
  by_cases h1 : k1 = q1
  · have b1 : (((k1 : Nat) : Int) == ((q1 : Nat) : Int)) = true := by simp [h1]
    have HD : Hid (decide ((k1, k2) = (q1, q2)) = decide (k2 = q2)) := by
      show decide ((k1, k2) = (q1, q2)) = decide (k2 = q2)
      simp [h1]
    generalize decide (k2 = q2) = D at *
    go_wp2
    go_ret
    exact ⟨by rw [HD.out]; first | done | rfl, HB.out⟩
  · have b1 : (((k1 : Nat) : Int) == ((q1 : Nat) : Int)) = false := by simp; omega
    have HD : Hid (decide ((k1, k2) = (q1, q2)) = false) := by
      show decide ((k1, k2) = (q1, q2)) = false
      simp [h1]
    generalize decide (k2 = q2) = D at *
    go_wp2
    go_ret
    exact ⟨by rw [HD.out]; first | done | rfl, HB.out⟩

theorem KeyV.below {B : Nat} {w w' : World} {k : Nat × List (Nat × Nat)} {v : Value} (h : KeyV B w k v) (hb : Below w.heap.size w w') : KeyV B w' k v := by
  obtain ⟨u, rfl, hu⟩ := h
  exact ⟨u, rfl, World.ownsRow.kept hu (row := none) ⟨hb.os, hb.tape, hb.output, hb.size, fun j hj _ => hb.block j hj⟩ (by rcases hx : u.ownBlock with _ | x; exact Or.inl rfl; exact Or.inr (by simp))⟩
theorem KeyV.alloc {B : Nat} {w : World} {k : Nat × List (Nat × Nat)} {v : Value} (h : KeyV B w k v) (o : Obj) : KeyV B (w.alloc o) k v := by
  obtain ⟨u, rfl, hu⟩ := h
  exact ⟨u, rfl, hu.alloc _⟩
theorem KeyV.base {B B' : Nat} {w : World} {k : Nat × List (Nat × Nat)} {v : Value} (h : KeyV B w k v) (hb : B' ≤ B) : KeyV B' w k v := by
  obtain ⟨u, rfl, hu⟩ := h
  exact ⟨u, rfl, owns_base hu hb⟩

/-- what KeyOf answers. -/
def KeyOfPost (B : Nat) (p : Option (Nat × List (Nat × Nat))) (w w' : World) (e : Ending) : Prop :=
  Below w.heap.size w w' ∧ match p with
    | none => e = .returned (.tuple #[.agg #[.int .i64 0, .slice none 0 0], .bool false])
    | some k => ∃ v, e = .returned (.tuple #[v, .bool true]) ∧ KeyV B w' k v

theorem below_drew {B : Nat} {w w' : World} (h : Below B w w') : Below B w w'.drew := ⟨h.os, h.tape, h.output, h.size, h.block⟩
theorem keyV_two {B : Nat} {w : World} {k : Nat × List (Nat × Nat)} {v : Value} (h : KeyV B w k v) (o1 o2 : Obj) : KeyOfPost B (some k) w ((w.alloc o1).alloc o2).drew (.returned (.tuple #[v, .bool true])) :=
  ⟨below_drew (((Below.refl _ _).alloc (Nat.le_refl _) _).alloc (by simp) _), v, rfl, by obtain ⟨u, rfl, hu⟩ := (h.alloc o1).alloc o2; exact ⟨u, rfl, hu⟩⟩

set_option maxHeartbeats 1600000 in
theorem keyOf_any (B : Nat) (p : Rp) (d : Nat) (v28 v29 : Value) (w : World) (hd : d ≤ 6) (hl : p.sts.length ≤ 100) (h : w.ownsRow B 86 2 v28 p.sts.length (prs p.sts)) :
    Calls Tryz.prog 30 #[.agg #[.int .i64 (p.en : Nat), .int .i64 (p.fa : Nat), .int .i64 (p.pa : Nat), .int .i64 (p.kd : Nat), v28, v29, .int .i64 (p.k : Nat), .int .i64 p.top], .int .i64 (d : Nat)] w fun e w' => KeyOfPost B (kyR p d) w w' e := by
  obtain ⟨en, fa, pa, kd, sts, eds, k, top⟩ := p
  dsimp only at *
  have HO : Hid (w.ownsRow B 86 2 v28 sts.length (prs sts)) := h
  by_cases he : en = 1
  · have HK : Hid (kyR ⟨en, fa, pa, kd, sts, eds, k, top⟩ d = some (kd, sts.take d)) := by
      show kyR ⟨en, fa, pa, kd, sts, eds, k, top⟩ d = some (kd, sts.take d)
      unfold kyR; rw [if_pos he]
    rw [HK.out]
    subst he
    have HKV : ∀ a cap, v28 = .slice a sts.length cap → Hid (KeyV B w (kd, sts.take d) (.agg #[.int .i64 (kd : Nat), .slice a (min d sts.length) cap])) := by
      intro a cap hv
      rw [hv] at HO
      refine ⟨_, rfl, ?_⟩
      have := owns_takeA HO.out (min d sts.length) (Nat.min_le_right _ _)
      rw [← prs_take] at this
      have e : sts.take (min d sts.length) = sts.take d := by rw [List.take_eq_take_iff]; omega
      rw [e] at this
      simpa [List.length_take] using this
    clear HK
    obtain ⟨-, ⟨hv, h0⟩ | ⟨g, cap, cur, hv, -, -, hnc, hcm, -, -⟩⟩ := h
    · have HV : Hid (KeyV B w (kd, sts.take d) (.agg #[.int .i64 (kd : Nat), .slice none 0 0])) := by
        have := HKV none 0 (by rw [hv, h0])
        rwa [h0, Nat.min_zero] at this
      subst hv
      clear HKV HO h0
      go_enter Tryz.func30, Tryz.ntmps30
      by_cases hd0 : 0 < d
      · go_wp2
        go_region
        go_wp2
        exact bodyPost_ret (v := .tuple #[.agg #[.int .i64 (kd : Nat), .slice none 0 0], .bool true]) (by simp [results, Tryz.results30, go_sem]) rfl (keyV_two HV.out _ _)
      · obtain rfl : d = 0 := by omega
        go_wp2
        go_region
        go_wp2
        exact bodyPost_ret (v := .tuple #[.agg #[.int .i64 (kd : Nat), .slice none 0 0], .bool true]) (by simp [results, Tryz.results30, go_sem]) rfl (keyV_two HV.out _ _)
    · have HV := HKV (some ⟨g, 0, none⟩) cap hv
      subst hv
      unfold maxLen at hcm
      clear HKV HO
      generalize sts.length = len at *
      by_cases hlt : len < d
      · have hmin : min d len = len := by omega
        rw [hmin] at HV
        clear hmin
        go_enter Tryz.func30, Tryz.ntmps30
        go_wp2
        go_region
        go_wp2
        exact bodyPost_ret (v := .tuple #[.agg #[.int .i64 (kd : Nat), .slice (some ⟨g, 0, none⟩) len cap], .bool true]) (by simp [results, Tryz.results30, go_sem]) rfl (keyV_two HV.out _ _)
      · have hmin : min d len = d := by omega
        rw [hmin] at HV
        clear hmin
        go_enter Tryz.func30, Tryz.ntmps30
        go_wp2
        go_region
        go_wp2
        exact bodyPost_ret (v := .tuple #[.agg #[.int .i64 (kd : Nat), .slice (some ⟨g, 0, none⟩) d cap], .bool true]) (by simp [results, Tryz.results30, go_sem]) rfl (keyV_two HV.out _ _)
  · have HK : Hid (kyR ⟨en, fa, pa, kd, sts, eds, k, top⟩ d = none) := by
      show kyR ⟨en, fa, pa, kd, sts, eds, k, top⟩ d = none
      unfold kyR; rw [if_neg he]
    rw [HK.out]
    have b1 : (((en : Nat) : Int) == 1) = false := by simp; omega
    clear HO HK h
    go_enter Tryz.func30, Tryz.ntmps30
    go_wp2
    exact bodyPost_ret (v := .tuple #[.agg #[.int .i64 0, .slice none 0 0], .bool false]) (by simp [results, Tryz.results30, go_sem]) rfl ⟨((Below.refl _ _).alloc (Nat.le_refl _) _).alloc (by simp) _, rfl⟩
end Go.Proofs.YtjhjkdcophcgaaaGreatDoor

/-
  THE PLAIN MACHINE: with more fuel. By the verifier of the loop 'triage'.
-/
namespace Go.Proofs.YtjhjkdcophcgaaaGreatDoor
namespace Im

theorem step_edg (s inp : ByteArray) (m : St) (i : Nat) (h : m.edg i = true) : (stepP s inp m).1.edg i = true := by
  have key : (fun r : St × Nat => r.1.edg i = true) (stepP s inp m) := by
    unfold stepP
    repeat' (refine itep (P := fun r : St × Nat => r.1.edg i = true) (fun _ => ?_) (fun _ => ?_))
    all_goals first | exact h | (show up m.edg _ i = true; unfold up; split; rfl; exact h)
  exact key
theorem runP_edg (s inp : ByteArray) : ∀ f m k i, m.edg i = true → (runP s inp f m k).2.2.1.edg i = true := by
  intro f
  induction f with
  | zero => intro m k i h; exact h
  | succ f ih =>
    intro m k i h
    unfold runP
    have h1 := step_edg s inp m i h
    split
    · exact ih _ _ i h1
    · split
      · exact h1
      · exact h1
theorem runP_add (s inp : ByteArray) : ∀ f d m k, runP s inp (f + d) m k = if (runP s inp f m k).1 = 2 then runP s inp d (runP s inp f m k).2.2.1 (runP s inp f m k).2.2.2 else runP s inp f m k := by
  intro f
  induction f with
  | zero => intro d m k; rw [Nat.zero_add]; rfl
  | succ f ih =>
    intro d m k
    rw [show f + 1 + d = (f + d) + 1 by omega]
    by_cases h0 : (stepP s inp m).2 = 0
    · have e1 : runP s inp (f + d + 1) m k = runP s inp (f + d) (stepP s inp m).1 (k + 1) := by rw [runP, if_pos h0]
      have e2 : runP s inp (f + 1) m k = runP s inp f (stepP s inp m).1 (k + 1) := by rw [runP, if_pos h0]
      rw [e1, e2]
      exact ih d _ _
    · by_cases h10 : (stepP s inp m).2 = 10
      · have e1 : ∀ n, runP s inp (n + 1) m k = (0, 0, (stepP s inp m).1, k + 1) := fun n => by rw [runP, if_neg h0, if_pos h10]
        rw [e1, e1, if_neg (by simp)]
      · have e1 : ∀ n, runP s inp (n + 1) m k = (1, (stepP s inp m).2, (stepP s inp m).1, k + 1) := fun n => by rw [runP, if_neg h0, if_neg h10]
        rw [e1, e1, if_neg (by simp)]
theorem runP_steps (s inp : ByteArray) : ∀ f m k, k ≤ (runP s inp f m k).2.2.2 ∧ (runP s inp f m k).2.2.2 ≤ k + f ∧ ((runP s inp f m k).1 = 2 → (runP s inp f m k).2.2.2 = k + f ∧ (runP s inp f m k).2.1 = 0) ∧ ((runP s inp f m k).1 ≠ 2 → k < (runP s inp f m k).2.2.2) := by
  intro f
  induction f with
  | zero => intro m k; exact ⟨Nat.le_refl _, Nat.le_refl _, fun _ => ⟨rfl, rfl⟩, fun h => absurd rfl h⟩
  | succ f ih =>
    intro m k
    by_cases h0 : (stepP s inp m).2 = 0
    · have e2 : runP s inp (f + 1) m k = runP s inp f (stepP s inp m).1 (k + 1) := by rw [runP, if_pos h0]
      rw [e2]
      obtain ⟨a, b, c, d⟩ := ih (stepP s inp m).1 (k + 1)
      exact ⟨by omega, by omega, fun h => ⟨by have := (c h).1; omega, (c h).2⟩, fun _ => by omega⟩
    · by_cases h10 : (stepP s inp m).2 = 10
      · have e1 : runP s inp (f + 1) m k = (0, 0, (stepP s inp m).1, k + 1) := by rw [runP, if_neg h0, if_pos h10]
        rw [e1]
        exact ⟨Nat.le_succ _, by show k + 1 ≤ _; omega, fun h => by simp at h, fun _ => Nat.lt_succ_self _⟩
      · have e1 : runP s inp (f + 1) m k = (1, (stepP s inp m).2, (stepP s inp m).1, k + 1) := by rw [runP, if_neg h0, if_neg h10]
        rw [e1]
        exact ⟨Nat.le_succ _, by show k + 1 ≤ _; omega, fun h => by simp at h, fun _ => Nat.lt_succ_self _⟩
theorem el_rise (E : Nat → Bool) (i : Nat) (h0 : 1 ≤ i) (h : i < (el E).length) : (el E)[i - 1]?.getD 0 < (el E)[i]?.getD 0 := by
  have hp : (el E).Pairwise (· < ·) := List.Pairwise.filter _ List.pairwise_lt_range
  rw [List.getElem?_eq_getElem (by omega), List.getElem?_eq_getElem h]
  exact List.pairwise_iff_getElem.1 hp (i - 1) i (by omega) h (by omega)
theorem el_sub (E F : Nat → Bool) (h : ∀ i, E i = true → F i = true) (x : Nat) (hx : x ∈ el E) : x ∈ el F := by
  have := List.mem_filter.1 hx
  exact List.mem_filter.2 ⟨this.1, h x this.2⟩
end Im

/-- WITH MORE FUEL: what Fuel asks. -/
structure Mor (a b : Rp) (fuel : Nat) : Prop where
  st : a.k ≤ fuel
  up : ∀ i, 1 ≤ i → i < a.eds.length → a.eds[i - 1]?.getD 0 < a.eds[i]?.getD 0
  sub : ∀ x, x ∈ a.eds → x ∈ b.eds
  two : a.en = 2 → a.k = fuel ∧ fuel ≤ b.k ∧ a.sts = [] ∧ a.kd = 0 ∧ a.top = -1
  not : a.en ≠ 2 → b = a ∧ 0 < a.k
theorem mor_of (s inp : ByteArray) (fuel more : Nat) (h : fuel ≤ more) : Mor (ofR (Im.runP s inp fuel (Im.st0 s) 0)) (ofR (Im.runP s inp more (Im.st0 s) 0)) fuel := by
  obtain ⟨d, rfl⟩ : ∃ d, more = fuel + d := ⟨more - fuel, by omega⟩
  have ha := Im.runP_add s inp fuel d (Im.st0 s) 0
  obtain ⟨_, h2, h3, h4⟩ := Im.runP_steps s inp fuel (Im.st0 s) 0
  by_cases h5 : (Im.runP s inp fuel (Im.st0 s) 0).1 = 2
  · rw [if_pos h5] at ha
    have hb := Im.runP_steps s inp d (Im.runP s inp fuel (Im.st0 s) 0).2.2.1 (Im.runP s inp fuel (Im.st0 s) 0).2.2.2
    have he := Im.runP_edg s inp d (Im.runP s inp fuel (Im.st0 s) 0).2.2.1 (Im.runP s inp fuel (Im.st0 s) 0).2.2.2
    rw [ha]
    obtain ⟨h31, h32⟩ := h3 h5
    refine ⟨by show (Im.runP s inp fuel (Im.st0 s) 0).2.2.2 ≤ fuel; omega, Im.el_rise _, Im.el_sub _ _ he, fun _ => ⟨by show (Im.runP s inp fuel (Im.st0 s) 0).2.2.2 = fuel; omega, by have := hb.1; show fuel ≤ (Im.runP s inp d (Im.runP s inp fuel (Im.st0 s) 0).2.2.1 (Im.runP s inp fuel (Im.st0 s) 0).2.2.2).2.2.2; omega, ?_, h32, ?_⟩, fun h => absurd h5 h⟩
    · show rsts _ = []
      unfold rsts; rw [if_neg (by rw [h5]; decide)]
    · show rtop _ = -1
      unfold rtop; rw [if_neg (by rw [h5]; decide)]
  · rw [if_neg h5] at ha
    rw [ha]
    exact ⟨by show (Im.runP s inp fuel (Im.st0 s) 0).2.2.2 ≤ fuel; omega, Im.el_rise _, fun x hx => hx, fun h => absurd h h5, fun _ => ⟨rfl, h4 h5⟩⟩

theorem run_calB (s inp : ByteArray) (n : Nat) (ho : Im.Okay s n) : ∀ f m k, Im.Good s inp n m → (Im.runP s inp f m k).2.2.1.cal.length ≤ 8 := by
  intro f
  induction f with
  | zero => intro m k hg; exact hg.hcl
  | succ f ih =>
    intro m k hg
    unfold Im.runP
    by_cases h0 : (Im.stepP s inp m).2 = 0
    · rw [if_pos h0]; exact ih _ _ (Im.good_step s inp n m ho hg h0)
    · have hs := Im.step_stays s inp m h0
      rw [if_neg h0]
      by_cases h10 : (Im.stepP s inp m).2 = 10
      · rw [if_pos h10]; show (Im.stepP s inp m).1.cal.length ≤ 8; rw [hs]; exact hg.hcl
      · rw [if_neg h10]; show (Im.stepP s inp m).1.cal.length ≤ 8; rw [hs]; exact hg.hcl
theorem outP_stsB (s inp : ByteArray) (fuel : Int) : (outP s inp fuel).1.sts.length ≤ 8 := by
  unfold outP
  by_cases h : (Im.chk s).1 ≠ 0
  · rw [if_pos h]; simp [rz]
  · rw [if_neg h]
    have hc := chk_zero s (by omega)
    have ho := Im.okay_of s hc
    split
    · simp [rz]
    · split
      · simp [rz]
      · show (rsts _).length ≤ 8
        unfold rsts
        split
        · rw [List.length_reverse]
          exact run_calB s inp _ ho _ _ _ (Im.good_start s inp _ ho)
        · simp

/-- the run that Fuel opens with. -/
theorem out_trap : (outP ⟨#[1, 1, 17]⟩ ⟨#[]⟩ 9).1.en = 1 ∧ (outP ⟨#[1, 1, 17]⟩ ⟨#[]⟩ 9).2.1 = 0 := by
  constructor <;> decide
end Go.Proofs.YtjhjkdcophcgaaaGreatDoor

/-
  THE DOCUMENT's SIDE (package triageref): asked, hits. By the verifier of the loop 'triage'.
-/
namespace Go.Proofs.YtjhjkdcophcgaaaGreatDoor
open Go.RowKit

/-- a list of inputs, as it lies in memory. -/
def Ins (L : List ByteArray) (v : Value) (w : World) : Prop :=
  ∃ a cap, v = .slice a L.length cap ∧ L.length ≤ cap ∧ cap ≤ maxLen ∧ (0 < L.length → ∃ g o, a = some ⟨g, o, none⟩ ∧ g < w.heap.size ∧ ∀ i, i < L.length → w.cell? ⟨g, o + i, none⟩ = some (.string (L[i]?.getD ByteArray.empty))) ∧ ∀ s ∈ L, s.size ≤ maxLen
theorem Ins.below {L : List ByteArray} {v : Value} {w w' : World} (h : Ins L v w) (hb : Below w.heap.size w w') : Ins L v w' := by
  obtain ⟨a, cap, h1, h2, h3, h4, h5⟩ := h
  refine ⟨a, cap, h1, h2, h3, fun h0 => ?_, h5⟩
  obtain ⟨g, o, e, hg, hc⟩ := h4 h0
  exact ⟨g, o, e, Nat.lt_of_lt_of_le hg hb.size, fun i hi => (hb.cell (p := ⟨g, o + i, none⟩) hg).trans (hc i hi)⟩
theorem Ins.getsz {L : List ByteArray} {v : Value} {w : World} (h : Ins L v w) (i : Nat) : (L[i]?.getD ByteArray.empty).size ≤ maxLen := by
  obtain ⟨a, cap, h1, h2, h3, h4, h5⟩ := h
  by_cases hi : i < L.length
  · rw [List.getElem?_eq_getElem hi]; exact h5 _ (List.getElem_mem hi)
  · rw [List.getElem?_eq_none (by omega)]; exact Nat.zero_le _
/-- a list of one input, just laid. -/
theorem ins_one (inp : ByteArray) (w : World) (t : TypeId) (h : inp.size ≤ maxLen) : Ins [inp] (.slice (some ⟨w.heap.size, 0, none⟩) 1 1) (w.alloc (.cells #[.string inp] t)) := by
  refine ⟨_, 1, rfl, by simp, by unfold maxLen; omega, fun _ => ⟨w.heap.size, 0, rfl, by simp, ?_⟩, by simpa using h⟩
  intro i hi
  obtain rfl : i = 0 := by simp at hi; omega
  exact rcell_of (rheap_new _ _) rfl

set_option maxHeartbeats 1600000 in
theorem asked_any (s : ByteArray) (fuel depth : Int) (L : List ByteArray) (v : Value) (w : World) (hI : Ins L v w) :
    Calls Tryz.prog 29 #[.string s, .int .i64 fuel, .int .i64 depth, v] w fun e w' => e = .returned (.tuple #[.int .i64 (askP s fuel depth L).1, .int .i64 (askP s fuel depth L).2]) ∧ Below w.heap.size w w' := by
  have HI : Hid (Ins L v w) := hI
  obtain ⟨a, cap, rfl, hcap, hmax, hcell, hsz⟩ := hI
  unfold maxLen at hmax
  obtain ⟨len, HLEN⟩ : ∃ len, Hid (L.length = len) := ⟨_, rfl⟩
  rw [HLEN.out] at hcap hcell ⊢
  clear hsz
  obtain ⟨A, HA⟩ : ∃ A, Hid (askP s fuel depth L = A) := ⟨_, rfl⟩
  rw [HA.out]
  go_enter Tryz.func29, Tryz.ntmps29
  go_wp2_with fail
  refine (check_any s _).mono ?_
  rintro e w1 ⟨rfl, hb1⟩
  have HB : Hid (Below w.heap.size w w1) := hb1
  have hcell1 : 0 < len → ∃ g o, a = some ⟨g, o, none⟩ ∧ g < w1.heap.size ∧ ∀ i, i < len → w1.cell? ⟨g, o + i, none⟩ = some (.string (L[i]?.getD ByteArray.empty)) := by
    intro h0
    obtain ⟨g, o, e, hg, hc⟩ := hcell h0
    exact ⟨g, o, e, Nat.lt_of_lt_of_le hg hb1.size, fun i hi => (hb1.cell (p := ⟨g, o + i, none⟩) hg).trans (hc i hi)⟩
  clear hb1 hcell
  by_cases h : (Im.chk s).1 = 0
  · have hcz := chk_zero s h
    rw [hcz]
    by_cases hn : badN fuel depth len
    · have HE : Hid (A = (6, 0)) := HA.out.symm.trans (askP_arg h (by rw [HLEN.out]; exact hn))
      clear hcell1 h hcz
      unfold badN at hn
      by_cases h1 : fuel < 0
      · go_wp2
        go_ret2
        exact ⟨by rw [HE.out]; first | done | rfl, HB.out⟩
      · by_cases h2 : 2000 < fuel
        · go_wp2
          go_ret2
          exact ⟨by rw [HE.out]; first | done | rfl, HB.out⟩
        · by_cases h3 : depth < 0
          · go_wp2
            go_ret2
            exact ⟨by rw [HE.out]; first | done | rfl, HB.out⟩
          · by_cases h4 : 6 < depth
            · go_wp2
              go_ret2
              exact ⟨by rw [HE.out]; first | done | rfl, HB.out⟩
            · have h5 : 12 < len := by omega
              go_wp2
              go_ret2
              exact ⟨by rw [HE.out]; first | done | rfl, HB.out⟩
    · have HLN : Hid (∀ i : Nat, lng L 0 = some i → A = (1, (i : Int))) := fun i hi => HA.out.symm.trans (askP_lng h (by rw [HLEN.out]; exact hn) hi)
      have HOK : Hid (lng L 0 = none → A = (0, 0)) := fun hi => HA.out.symm.trans (askP_ok h (by rw [HLEN.out]; exact hn) hi)
      clear h hcz
      unfold badN at hn
      have h1 : ¬ fuel < 0 := by omega
      have h2 : ¬ 2000 < fuel := by omega
      have h3 : ¬ depth < 0 := by omega
      have h4 : ¬ 6 < depth := by omega
      have h5 : ¬ 12 < len := by omega
      clear hn
      go_wp2
      go_loopw [12] (fun i wr => ∃ j : Nat, i = .int .i64 j ∧ j ≤ len ∧ lng L 0 = lng (L.drop j) j ∧ wr = w1) (fun i _ => len - (intOf i).toNat)
      case atStart => exact ⟨0, rfl, by omega, by simp, rfl⟩
      case round =>
        obtain ⟨j, rfl, hj, hL, rfl⟩ := hrel
        by_cases hlt : j < len
        · obtain ⟨g, o, rfl, hg, hc⟩ := hcell1 (by omega)
          have hcj := hc j hlt
          have hsj := HI.out.getsz j
          have HS := lng_step L j (by rw [HLEN.out]; exact hlt)
          rw [HS] at hL
          generalize L[j]?.getD ByteArray.empty = x at *
          unfold maxLen at hsj
          by_cases hx : 24 < x.size
          · rw [if_pos hx] at hL
            have HE : Hid (A = (1, (j : Int))) := HLN.out j hL
            clear hL HS hc hcell1
            go_wp2
            go_ret2
            exact ⟨by rw [HE.out]; first | done | rfl, HB.out⟩
          · rw [if_neg hx] at hL
            have HE : Hid (lng L 0 = lng (L.drop (j + 1)) (j + 1)) := hL
            clear hL HS hc hcell1
            go_wp2
            go_roundw
            case rel => exact ⟨j + 1, by go_num, by omega, HE.out, by first | exact trivial | exact rfl⟩
            case measure => simp [intOf]; omega
        · obtain rfl : j = len := by omega
          have HE : Hid (A = (0, 0)) := HOK.out (hL.trans (lng_end L _ (by rw [HLEN.out]; exact Nat.le_refl _)))
          clear hL hcell1
          go_wp2
          go_ret2
          exact ⟨by rw [HE.out]; first | done | rfl, HB.out⟩
  · have HE : Hid (A = ((Im.chk s).1, (Im.chk s).2)) := HA.out.symm.trans (askP_chk h)
    clear hcell1
    have hb : ((Im.chk s).1 == 0) = false := by simpa using h
    generalize (Im.chk s).1 = c at *
    generalize (Im.chk s).2 = p at *
    go_wp2
    go_ret2
    exact ⟨by rw [HE.out]; first | done | rfl, HB.out⟩

theorem rep_sts {s inp : ByteArray} {fuel : Nat} (hc : Im.chk s = (0, 0)) (hi : inp.size ≤ 24) (hf : fuel ≤ 2000) : (rep s fuel inp).sts.length ≤ 8 := by
  have := outP_stsB s inp fuel
  rw [outP_rep hc hi hf] at this
  exact this

/-- Play, with the report under its name. -/
theorem play_rep (s inp : ByteArray) (fuel : Nat) (w : World) (hc : Im.chk s = (0, 0)) (hi : inp.size ≤ 24) (hf : fuel ≤ 2000) :
    Calls Tryz.prog 31 #[.string s, .string inp, .int .i64 fuel] w fun e w' => ∃ v28 v29, e = .returned (.agg #[.int .i64 ((rep s fuel inp).en : Nat), .int .i64 ((rep s fuel inp).fa : Nat), .int .i64 ((rep s fuel inp).pa : Nat), .int .i64 ((rep s fuel inp).kd : Nat), v28, v29, .int .i64 ((rep s fuel inp).k : Nat), .int .i64 (rep s fuel inp).top]) ∧
      w'.ownsRow w.heap.size 86 2 v28 (rep s fuel inp).sts.length (prs (rep s fuel inp).sts) ∧ w'.ownsRow w.heap.size 3 1 v29 (rep s fuel inp).eds.length (ints (rep s fuel inp).eds) ∧ Below w.heap.size w w' :=
  play_any s inp fuel w hc hi hf

set_option maxHeartbeats 1600000 in
theorem hits_any (B : Nat) (s inp : ByteArray) (fuel d : Nat) (k : Nat × List (Nat × Nat)) (kv : Value) (w : World) (hc : Im.chk s = (0, 0)) (hi : inp.size ≤ 24) (hf : fuel ≤ 2000) (hd : d ≤ 6) (hk : k.2.length ≤ 100) (hK : KeyV B w k kv) :
    Calls Tryz.prog 33 #[.string s, .int .i64 (fuel : Nat), .int .i64 (d : Nat), .string inp, kv] w fun e w' => e = .returned (.bool (hit s fuel d k inp)) ∧ Below w.heap.size w w' := by
  have HK : Hid (KeyV B w k kv) := hK
  obtain ⟨u, rfl, hu⟩ := hK
  obtain ⟨a1, cap1, hv1, -, -, -⟩ := owns_shape hu
  subst hv1
  clear hu
  have hst := rep_sts (s := s) (inp := inp) (fuel := fuel) hc hi hf
  obtain ⟨hh, HH⟩ : ∃ hh, Hid (hit s fuel d k inp = hh) := ⟨_, rfl⟩
  rw [HH.out]
  have HY : Hid (hh = decide (kyR (rep s fuel inp) d = some k)) := HH.out.symm
  clear HH
  go_enter Tryz.func33, Tryz.ntmps33
  go_wp2_with fail
  refine (play_rep s inp fuel _ hc hi hf).mono ?_
  rintro e w1 ⟨v28, v29, rfl, h28, h29, hb1⟩
  generalize rep s fuel inp = p at *
  have HB : Hid (Below w.heap.size w w1) := below_new hb1
  have HK1 : Hid (KeyV B w1 k (.agg #[.int .i64 (k.1 : Nat), .slice a1 k.2.length cap1])) := HK.out.below HB.out
  have c1 : w1.heap[w.heap.size]? = some (.cells #[.int .i64 (k.1 : Nat), .slice a1 k.2.length cap1] 51 (0, 0)) := (hb1.block _ (by simp)).trans (rheap_new _ _)
  have hz1 : w.heap.size < w1.heap.size := by have := hb1.size; simp at this; omega
  have h28' := owns_base (base' := w.heap.size) h28 (by simp)
  clear HK hb1 h28 h29 hc hi hf
  go_wp2_with fail
  refine (keyOf_any w.heap.size p d v28 v29 _ hd (by omega) h28').mono ?_
  rintro e w2 ⟨hb2, hm⟩
  cases hq : kyR p d with
  | none =>
    rw [hq] at hm
    subst hm
    have HF : Hid (hh = false) := by
      show hh = false
      rw [HY.out, hq]; simp
    have HB2 : Hid (Below w.heap.size w w2) := HB.out.trans (hb2.mono HB.out.size)
    have hz2 : w.heap.size < w2.heap.size := Nat.lt_of_lt_of_le hz1 hb2.size
    clear hb2 HK1 h28' HY c1
    go_wp2
    go_ret
    exact ⟨by rw [HF.out]; first | done | rfl, HB2.out.alloc (Nat.le_of_lt hz2) _⟩
  | some q =>
    rw [hq] at hm
    obtain ⟨v, rfl, hv⟩ := hm
    have HF : Hid (hh = decide (q = k)) := by
      show hh = decide (q = k)
      rw [HY.out, hq]; simp
    have HB2 : Hid (Below w.heap.size w w2) := HB.out.trans (hb2.mono HB.out.size)
    have hq2 : q.2.length ≤ 100 := by
      unfold kyR at hq
      split at hq
      · cases hq; simp only [List.length_take]; omega
      · cases hq
    have HK2 : Hid (KeyV B w2 k (.agg #[.int .i64 (k.1 : Nat), .slice a1 k.2.length cap1])) := HK1.out.below hb2
    have HV : Hid (KeyV w.heap.size w2 q v) := hv
    have c2 := (hb2.block w.heap.size hz1).trans c1
    have x0 : w2.cell? ⟨w.heap.size, 0, none⟩ = some (.int .i64 (k.1 : Nat)) := rcell_of c2 rfl
    have x1 : w2.cell? ⟨w.heap.size, 1, none⟩ = some (.slice a1 k.2.length cap1) := rcell_of c2 rfl
    have hz2 : w.heap.size < w2.heap.size := Nat.lt_of_lt_of_le hz1 hb2.size
    have hne : w.heap.size ≠ w2.heap.size := Nat.ne_of_lt hz2
    clear c2
    obtain ⟨u, rfl, hu⟩ := hv
    obtain ⟨a2, cap2, hv2, -, -, -⟩ := owns_shape hu
    subst hv2
    clear hb2 HK1 h28' HY hu c1
    go_wp2_with fail
    refine (same_any w.heap.size B _ _ q k _ hq2 hk (HV.out.alloc _) (HK2.out.alloc _)).mono ?_
    rintro e w3 ⟨rfl, hb3⟩
    have HB3 : Hid (Below w.heap.size w w3) := HB2.out.trans ((below_new hb3).mono HB2.out.size)
    rw [← HF.out]
    clear hb3 HB HB2 HK2 HV HF
    go_wp2
    go_ret
    exact ⟨rfl, HB3.out⟩
end Go.Proofs.YtjhjkdcophcgaaaGreatDoor
