/-
  PureS, KeyA: THESE TEXTS, JOINED. By the verifier of the loop 'triage'.
-/
import Derived.Test.YtbmaiioecnmopaaGreatDoorJ28
import Derived.Test.YtbmaiioecnmopaaGreatDoorJ01
import Derived.BigQuiet
/-
  THE PLAIN MATHEMATICS of shrinking: nothing of the dump. By the verifier of the loop 'triage'.
-/
namespace Go.Proofs.YtbmaiioecnmopaaGreatDoor
namespace Sh

/-- a text without its byte i. -/
def cut (t : ByteArray) (i : Nat) : ByteArray := t.extract 0 i ++ t.extract (i + 1) t.size
/-- a text whose byte i is 0. -/
def blk (t : ByteArray) (i : Nat) : ByteArray := t.extract 0 i ++ (⟨#[0]⟩ : ByteArray) ++ t.extract (i + 1) t.size
theorem cut_list (t : ByteArray) (i : Nat) : (cut t i).data.toList = t.data.toList.take i ++ t.data.toList.drop (i + 1) := by
  unfold cut
  simp only [ByteArray.data_append, ByteArray.data_extract, Array.toList_append, Array.toList_extract]
  simp [List.extract, List.take_of_length_le]
theorem blk_list (t : ByteArray) (i : Nat) : (blk t i).data.toList = t.data.toList.take i ++ 0 :: t.data.toList.drop (i + 1) := by
  unfold blk
  simp only [ByteArray.data_append, ByteArray.data_extract, Array.toList_append, Array.toList_extract]
  simp [List.extract, List.take_of_length_le]
theorem size_list (t : ByteArray) : t.data.toList.length = t.size := by cases t; rfl
theorem cut_size (t : ByteArray) (i : Nat) (h : i < t.size) : (cut t i).size = t.size - 1 := by
  rw [← size_list, cut_list]; simp; omega
theorem blk_size (t : ByteArray) (i : Nat) (h : i < t.size) : (blk t i).size = t.size := by
  rw [← size_list, blk_list]; simp; omega

/-- y comes from x by taking bytes out and turning some into 0. -/
inductive Frm : List UInt8 → List UInt8 → Prop
  | nil : Frm [] []
  | drop {y x b} : Frm y x → Frm y (b :: x)
  | keep {y x b} : Frm y x → Frm (b :: y) (b :: x)
  | zero {y x b} : Frm y x → Frm (0 :: y) (b :: x)
theorem Frm.refl (x : List UInt8) : Frm x x := by
  induction x with
  | nil => exact .nil
  | cons b x ih => exact .keep ih
theorem Frm.tail {a : UInt8} {y x : List UInt8} (h : Frm (a :: y) x) : Frm y x := by
  generalize hz : a :: y = z at h
  induction h with
  | nil => cases hz
  | drop _ ih => exact .drop (ih hz)
  | keep h _ => cases hz; exact .drop h
  | zero h _ => cases hz; exact .drop h
theorem Frm.trans {z y x : List UInt8} (h : Frm z y) (g : Frm y x) : Frm z x := by
  induction g generalizing z with
  | nil => exact h
  | drop _ ih => exact .drop (ih h)
  | keep _ ih =>
    cases h with
    | drop h => exact .drop (ih h)
    | keep h => exact .keep (ih h)
    | zero h => exact .zero (ih h)
  | zero _ ih =>
    cases h with
    | drop h => exact .drop (ih h)
    | keep h => exact .zero (ih h)
    | zero h => exact .zero (ih h)
theorem frm_cut (l : List UInt8) (i : Nat) (h : i < l.length) : Frm (l.take i ++ l.drop (i + 1)) l := by
  induction l generalizing i with
  | nil => simp at h
  | cons b l ih =>
    cases i with
    | zero => simp; exact .drop (Frm.refl _)
    | succ i => simp only [List.take_succ_cons, List.drop_succ_cons, List.cons_append]; exact .keep (ih i (by simpa using h))
theorem frm_blk (l : List UInt8) (i : Nat) (h : i < l.length) : Frm (l.take i ++ 0 :: l.drop (i + 1)) l := by
  induction l generalizing i with
  | nil => simp at h
  | cons b l ih =>
    cases i with
    | zero => simp; exact .zero (Frm.refl _)
    | succ i => simp only [List.take_succ_cons, List.drop_succ_cons, List.cons_append]; exact .keep (ih i (by simpa using h))
theorem Frm.len {y x : List UInt8} (h : Frm y x) : y.length ≤ x.length := by
  induction h with
  | nil => simp
  | drop _ ih => simp; omega
  | keep _ ih => simp; omega
  | zero _ ih => simp; omega
/-- a step of the greedy look. -/
theorem frm_step {a b : UInt8} {y x : List UInt8} (h : Frm (a :: y) (b :: x)) (hab : a = b ∨ a = 0) : Frm y x := by
  cases h with
  | drop h => exact h.tail
  | keep h => exact h
  | zero h => exact h
theorem frm_skip {a b : UInt8} {y x : List UInt8} (h : Frm (a :: y) (b :: x)) (hab : ¬ (a = b ∨ a = 0)) : Frm (a :: y) x := by
  cases h with
  | drop h => exact h
  | keep h => exact absurd (Or.inl rfl) hab
  | zero h => exact absurd (Or.inr rfl) hab

/-- the bytes, and those that are not 0. -/
def mu (l : List UInt8) : Nat := l.length + (l.filter (· != 0)).length
theorem mu_app (a b : List UInt8) : mu (a ++ b) = mu a + mu b := by unfold mu; simp; omega
theorem list_split (l : List UInt8) (i : Nat) (h : i < l.length) : l = l.take i ++ l[i] :: l.drop (i + 1) := by
  have : l[i] :: l.drop (i + 1) = l.drop i := (List.drop_eq_getElem_cons h).symm
  rw [this, List.take_append_drop]
theorem mu_cut (l : List UInt8) (i : Nat) (h : i < l.length) : mu (l.take i ++ l.drop (i + 1)) < mu l := by
  have e : mu l = mu (l.take i ++ l[i] :: l.drop (i + 1)) := by rw [← list_split l i h]
  rw [e, mu_app, mu_app]
  have : mu (l[i] :: l.drop (i + 1)) = mu [l[i]] + mu (l.drop (i + 1)) := mu_app [l[i]] _
  have h1 : 1 ≤ mu [l[i]] := by unfold mu; simp
  omega
theorem mu_blk (l : List UInt8) (i : Nat) (h : i < l.length) (hn : l.take i ++ 0 :: l.drop (i + 1) ≠ l) : mu (l.take i ++ 0 :: l.drop (i + 1)) < mu l := by
  have e : mu l = mu (l.take i ++ l[i] :: l.drop (i + 1)) := by rw [← list_split l i h]
  have h0 : l[i] ≠ 0 := by
    intro h0
    apply hn
    rw [← h0]
    exact (list_split l i h).symm
  rw [e, mu_app, mu_app]
  have e1 : mu (l[i] :: l.drop (i + 1)) = mu [l[i]] + mu (l.drop (i + 1)) := mu_app [l[i]] _
  have e2 : mu (0 :: l.drop (i + 1)) = mu [0] + mu (l.drop (i + 1)) := mu_app [0] _
  have h1 : mu [l[i]] = 2 := by unfold mu; simp [h0]
  have h2 : mu [(0 : UInt8)] = 1 := by unfold mu; simp
  omega
def muB (t : ByteArray) : Nat := mu t.data.toList
theorem ext_list {a b : ByteArray} (h : a.data.toList = b.data.toList) : a = b := by
  cases a; cases b; cases Array.toList_inj.1 h; rfl

/-- one step of a round, at byte i. -/
def stp (H : ByteArray → Bool) (t : ByteArray) (i : Nat) : ByteArray :=
  if H (cut t i) then cut t i else if blk t i ≠ t ∧ H (blk t i) = true then blk t i else t
/-- a round: over the bytes below n, the last one first. -/
def rnd (H : ByteArray → Bool) : Nat → ByteArray → ByteArray
  | 0, t => t
  | n + 1, t => rnd H n (stp H t n)
/-- what holds of all texts of a shrinking: it comes from x, and its run has the key. -/
structure Inv (H : ByteArray → Bool) (x t : ByteArray) : Prop where
  frm : Frm t.data.toList x.data.toList
  hit : H t = true
theorem Inv.size {H : ByteArray → Bool} {x t : ByteArray} (h : Inv H x t) : t.size ≤ x.size := by
  have := h.frm.len
  rwa [size_list, size_list] at this
theorem inv_stp {H : ByteArray → Bool} {x t : ByteArray} (h : Inv H x t) (i : Nat) (hi : i < t.size) : Inv H x (stp H t i) ∧ i ≤ (stp H t i).size ∧ (stp H t i = t ∨ muB (stp H t i) < muB t) := by
  have hl : i < t.data.toList.length := by rw [size_list]; exact hi
  unfold stp
  split
  · rename_i hc
    refine ⟨⟨?_, hc⟩, by rw [cut_size t i hi]; omega, Or.inr ?_⟩
    · rw [cut_list]; exact (frm_cut _ i hl).trans h.frm
    · unfold muB; rw [cut_list]; exact mu_cut _ i hl
  · split
    · rename_i hc
      refine ⟨⟨?_, hc.2⟩, by rw [blk_size t i hi]; omega, Or.inr ?_⟩
      · rw [blk_list]; exact (frm_blk _ i hl).trans h.frm
      · unfold muB; rw [blk_list]
        refine mu_blk _ i hl fun he => hc.1 (ext_list ?_)
        rw [blk_list]; exact he
    · exact ⟨h, by omega, Or.inl rfl⟩
theorem inv_rnd {H : ByteArray → Bool} {x : ByteArray} : ∀ n t, Inv H x t → n ≤ t.size → Inv H x (rnd H n t) ∧ muB (rnd H n t) ≤ muB t ∧ (rnd H n t = t ∨ muB (rnd H n t) < muB t) ∧ (rnd H n t = t → ∀ i, i < n → stp H t i = t) := by
  intro n
  induction n with
  | zero => intro t h _; exact ⟨h, Nat.le_refl _, Or.inl rfl, fun _ i hi => by omega⟩
  | succ n ih =>
    intro t h hn
    obtain ⟨h1, h2, h3⟩ := inv_stp h n (by omega)
    obtain ⟨g1, g2, g3, g4⟩ := ih _ h1 h2
    show Inv H x (rnd H n (stp H t n)) ∧ muB (rnd H n (stp H t n)) ≤ muB t ∧ (rnd H n (stp H t n) = t ∨ muB (rnd H n (stp H t n)) < muB t) ∧ (rnd H n (stp H t n) = t → ∀ i, i < n + 1 → stp H t i = t)
    have hle : muB (stp H t n) ≤ muB t := by
      rcases h3 with h3 | h3
      · rw [h3]; exact Nat.le_refl _
      · omega
    refine ⟨g1, by omega, ?_, ?_⟩
    · rcases h3 with h3 | h3
      · rw [h3] at g3 ⊢; exact g3
      · exact Or.inr (by omega)
    · intro he i hi
      rcases h3 with h3 | h3
      · rw [h3] at g4 he
        rcases Nat.lt_or_ge i n with hlt | hge
        · exact g4 he i hlt
        · obtain rfl : i = n := by omega
          exact h3
      · rw [he] at g2; omega
/-- a text that a whole round leaves as it is: nothing smaller of it has the key. -/
structure Done (H : ByteArray → Bool) (x t : ByteArray) : Prop where
  inv : Inv H x t
  cuts : ∀ i, i < t.size → H (cut t i) = false
  blks : ∀ i, i < t.size → t.data.toList[i]?.getD 0 ≠ 0 → H (blk t i) = false
theorem blk_ne (t : ByteArray) (i : Nat) (h : i < t.size) (h0 : t.data.toList[i]?.getD 0 ≠ 0) : blk t i ≠ t := by
  intro he
  have := congrArg (fun b => b.data.toList[i]?.getD 0) he
  simp only [blk_list] at this
  rw [List.getElem?_append_right (by rw [List.length_take]; omega)] at this
  have hl : i < t.data.toList.length := by rw [size_list]; exact h
  rw [List.length_take, Nat.min_eq_left (by omega), Nat.sub_self] at this
  simp at this
  exact h0 (by simpa using this.symm)
theorem done_of {H : ByteArray → Bool} {x t : ByteArray} (h : Inv H x t) (he : rnd H t.size t = t) : Done H x t := by
  have h4 := (inv_rnd t.size t h (Nat.le_refl _)).2.2.2 he
  refine ⟨h, ?_, ?_⟩
  · intro i hi
    have := h4 i hi
    unfold stp at this
    split at this
    · have h2 := congrArg ByteArray.size this
      rw [cut_size t i hi] at h2
      omega
    · rename_i hc; simpa using hc
  · intro i hi h0
    have := h4 i hi
    unfold stp at this
    split at this
    · have h2 := congrArg ByteArray.size this
      rw [cut_size t i hi] at h2
      omega
    · split at this
      · rename_i hc; exact absurd this hc.1
      · rename_i hc
        have hne := blk_ne t i hi h0
        cases hb : H (blk t i) with
        | false => rfl
        | true => exact absurd ⟨hne, hb⟩ hc
end Sh
end Go.Proofs.YtbmaiioecnmopaaGreatDoor

/-
  THE DOCUMENT's SIDE (package triageref): SameSites of any two lists, Same, KeyOf, hits. By the verifier of the loop 'triage'.
-/
namespace Go.Proofs.YtbmaiioecnmopaaGreatDoor
open Go.RowKit

theorem below_drewP {B : Nat} {w w' : World} (q : Nat) (h : Below B w w') : Below B w (w'.drewN q) := ⟨h.os, h.tape, h.output, h.size, h.block⟩

theorem owns_takeA {w : World} {base : Nat} {e : TypeId} {size : Nat} {a : Option Addr} {n cap : Nat} {xs : List Value} (h : w.ownsRow base e size (.slice a n cap) n xs) (m : Nat) (hm : m ≤ n) : w.ownsRow base e size (.slice a m cap) m (xs.take (m * size)) := by
  obtain ⟨h1, ⟨hv, h0⟩ | ⟨g, c, cur, hv, hb, hg, hnc, hcm, hcs, ht⟩⟩ := h
  · obtain rfl : m = 0 := by omega
    cases hv
    simp
    exact World.ownsRow_nil _ _ _ _
  · cases hv
    refine ⟨by rw [List.length_take, h1]; exact Nat.min_eq_left (Nat.mul_le_mul_right _ hm), Or.inr ⟨g, cap, cur, rfl, hb, hg, by omega, hcm, hcs, ?_⟩⟩
    rw [← ht, List.take_take, Nat.min_eq_left (Nat.mul_le_mul_right _ hm)]
theorem take_ext {α : Type} [DecidableEq α] {l m : List α} {j : Nat} (hl : j < l.length) (hm : j < m.length) (d : α) (h : l.take j = m.take j) (hx : l[j]?.getD d = m[j]?.getD d) : l.take (j + 1) = m.take (j + 1) := by
  rw [List.take_add_one, List.take_add_one, h, List.getElem?_eq_getElem hl, List.getElem?_eq_getElem hm]
  rw [List.getElem?_eq_getElem hl, List.getElem?_eq_getElem hm] at hx
  simp at hx
  rw [hx]

set_option maxHeartbeats 3200000 in
set_option maxRecDepth 100000 in
theorem sameSites_dec (A B : Nat) (a b : Value) (l m : List (Nat × Nat)) (w : World) (hl : l.length ≤ 100) (hm : m.length ≤ 100) (ha : w.ownsRow A 86 2 a l.length (prs l)) (hb : w.ownsRow B 86 2 b m.length (prs m)) :
    Calls Tryz.prog 99 #[a, b] w fun e w' => e = .returned (.bool (decide (l = m))) ∧ Below w.heap.size w w' := by
  obtain ⟨a1, cap1, hv1, hn1, hm1, hc1⟩ := owns_shape ha
  obtain ⟨a2, cap2, hv2, hn2, hm2, hc2⟩ := owns_shape hb
  subst hv1 hv2
  clear ha hb hn1 hm1 hn2 hm2
  by_cases hlen : l.length = m.length
  · obtain ⟨len, HLEN⟩ : ∃ len, Hid (l.length = len) := ⟨_, rfl⟩
    have HLEM : Hid (m.length = len) := hlen.symm.trans HLEN.out
    rw [HLEN.out] at hc1 hl
    rw [HLEM.out] at hc2 hm
    rw [HLEN.out, HLEM.out]
    obtain ⟨D, HD⟩ : ∃ D, Hid (decide (l = m) = D) := ⟨_, rfl⟩
    rw [HD.out]
    clear hlen
    go_enter Tryz.func99, Tryz.ntmps99
    go_wp2
    go_loopw [5] (fun i wr => ∃ j : Nat, i = .int .i64 j ∧ j ≤ len ∧ l.take j = m.take j ∧ Below w.heap.size w wr) (fun i _ => len - (intOf i).toNat)
    case atStart => exact ⟨0, rfl, by omega, rfl, Below.refl _ _⟩
    case round =>
      obtain ⟨j, rfl, hj, hT, hB⟩ := hrel
      by_cases hlt : j < len
      · obtain ⟨g1, rfl, -, hg1, hx1⟩ := hc1 (by omega)
        obtain ⟨g2, rfl, -, hg2, hx2⟩ := hc2 (by omega)
        obtain ⟨q0, q1⟩ := prs_get l j (by rw [HLEN.out]; exact hlt)
        obtain ⟨r0, r1⟩ := prs_get m j (by rw [HLEM.out]; exact hlt)
        have x1 := (hB.cell (p := ⟨g1, j * 2, none⟩) hg1).trans (hx1 _ _ q0)
        have x2 := (hB.cell (p := ⟨g2, j * 2, none⟩) hg2).trans (hx2 _ _ r0)
        have y1 := (hB.cell (p := ⟨g1, j * 2 + 1, none⟩) hg1).trans (hx1 _ _ q1)
        have y2 := (hB.cell (p := ⟨g2, j * 2 + 1, none⟩) hg2).trans (hx2 _ _ r1)
        have HT : Hid (l[j]?.getD (0, 0) = m[j]?.getD (0, 0) → l.take (j + 1) = m.take (j + 1)) := fun h => take_ext (by rw [HLEN.out]; exact hlt) (by rw [HLEM.out]; exact hlt) (0, 0) hT h
        have HN : Hid (l[j]?.getD (0, 0) ≠ m[j]?.getD (0, 0) → D = false) := by
          show l[j]?.getD (0, 0) ≠ m[j]?.getD (0, 0) → D = false
          intro h
          rw [← HD.out]
          exact decide_eq_false fun e => h (by rw [e])
        generalize l[j]?.getD (0, 0) = x at *
        generalize m[j]?.getD (0, 0) = y at *
        obtain ⟨xa, xb⟩ := x
        obtain ⟨ya, yb⟩ := y
        dsimp only at x1 x2 y1 y2
        have HB : Hid _ := hB
        clear hc1 hc2 hx1 hx2 hB q0 q1 r0 r1 hT
        by_cases h1 : xa = ya
        · subst h1
          by_cases h2 : xb = yb
          · subst h2
            have HT2 : Hid (l.take (j + 1) = m.take (j + 1)) := HT.out rfl
            clear HT HN
            go_wp2
            go_quiet (fail)
            go_wp2
            go_roundw
            case rel => exact ⟨j + 1, by go_num, by omega, HT2.out, by first | exact HB.out | exact below_drewP _ HB.out | exact below_drewP _ (below_drewP _ HB.out)⟩
            case measure => simp [intOf]; omega
          · have b2 : (((xb : Nat) : Int) == ((yb : Nat) : Int)) = false := by simp; omega
            have b3 : (((xb : Nat) : Int) != ((yb : Nat) : Int)) = true := by simp; omega
            have HF : Hid (D = false) := HN.out (by rintro ⟨⟩; exact h2 rfl)
            clear HT HN
            go_wp2
            go_quiet (fail)
            go_wp2
            go_ret
            exact ⟨by rw [HF.out]; first | done | rfl, by first | exact HB.out | exact below_drewP _ HB.out | exact below_drewP _ (below_drewP _ HB.out)⟩
        · have b1 : (((xa : Nat) : Int) == ((ya : Nat) : Int)) = false := by simp; omega
          have b3 : (((xa : Nat) : Int) != ((ya : Nat) : Int)) = true := by simp; omega
          have HF : Hid (D = false) := HN.out (by rintro ⟨⟩; exact h1 rfl)
          clear HT HN
          go_wp2
          go_quiet (fail)
          go_wp2
          go_ret
          exact ⟨by rw [HF.out]; first | done | rfl, by first | exact HB.out | exact below_drewP _ HB.out | exact below_drewP _ (below_drewP _ HB.out)⟩
      · obtain rfl : j = len := by omega
        have HF : Hid (D = true) := by
          show D = true
          rw [← HD.out, decide_eq_true_iff]
          rwa [List.take_of_length_le (by rw [HLEN.out]; omega), List.take_of_length_le (by rw [HLEM.out]; omega)] at hT
        have HB : Hid _ := hB
        clear hc1 hc2 hB hT
        go_wp2
        go_ret
        exact ⟨by rw [HF.out]; first | done | rfl, HB.out⟩
  · have hd : decide (l = m) = false := decide_eq_false fun e => hlen (by rw [e])
    rw [hd]
    have hb1 : ((l.length : Int) == (m.length : Int)) = false := by simp; omega
    clear hc1 hc2
    go_enter Tryz.func99, Tryz.ntmps99
    go_wp2
    go_ret
    exact ⟨rfl, Below.refl _ _⟩

theorem two_new {w w1 : World} {o1 o2 : Obj} (hb : Below ((w.alloc o1).alloc o2).heap.size ((w.alloc o1).alloc o2) w1) : w1.heap[w.heap.size]? = some o1 ∧ w1.heap[w.heap.size + 1]? = some o2 := by
  constructor
  · exact (hb.block _ (by simp; omega)).trans ((Below.heap_alloc _ _ _ (by simp)).trans (rheap_new _ _))
  · have := rheap_new (w.alloc o1) o2
    simp only [World.size_alloc] at this
    exact (hb.block _ (by simp)).trans this
theorem below_two {w w1 : World} {o1 o2 : Obj} (hb : Below ((w.alloc o1).alloc o2).heap.size ((w.alloc o1).alloc o2) w1) : Below w.heap.size w w1 := below_new (below_new hb)
/-- a key, as a value of the document's type. -/
def KeyV (B : Nat) (w : World) (k : Nat × List (Nat × Nat)) (v : Value) : Prop := ∃ u, v = .agg #[.int .i64 (k.1 : Nat), u] ∧ w.ownsRow B 86 2 u k.2.length (prs k.2)

set_option maxHeartbeats 800000 in
theorem same_any (A B : Nat) (a b : Value) (k q : Nat × List (Nat × Nat)) (w : World) (hk : k.2.length ≤ 100) (hq : q.2.length ≤ 100) (ha : KeyV A w k a) (hb : KeyV B w q b) :
    Calls Tryz.prog 58 #[a, b] w fun e w' => e = .returned (.bool (decide (k = q))) ∧ Below w.heap.size w w' := by
  obtain ⟨u, rfl, hu⟩ := ha
  obtain ⟨v, rfl, hv⟩ := hb
  obtain ⟨a1, cap1, hv1, -, -, -⟩ := owns_shape hu
  obtain ⟨a2, cap2, hv2, -, -, -⟩ := owns_shape hv
  subst hv1 hv2
  obtain ⟨k1, k2⟩ := k
  obtain ⟨q1, q2⟩ := q
  dsimp only at *
  have HU : Hid (w.ownsRow A 86 2 (.slice a1 k2.length cap1) k2.length (prs k2)) := hu
  have HV : Hid (w.ownsRow B 86 2 (.slice a2 q2.length cap2) q2.length (prs q2)) := hv
  clear hu hv
  go_enter Tryz.func58, Tryz.ntmps58
  go_wp2_with fail
  refine (sameSites_dec A B _ _ k2 q2 _ hk hq ((HU.out.alloc _).alloc _) ((HV.out.alloc _).alloc _)).mono ?_
  rintro e w1 ⟨rfl, hb⟩
  obtain ⟨c1, c2⟩ := two_new hb
  have x1 : w1.cell? ⟨w.heap.size, 0, none⟩ = some (.int .i64 (k1 : Nat)) := rcell_of c1 rfl
  have x2 : w1.cell? ⟨w.heap.size + 1, 0, none⟩ = some (.int .i64 (q1 : Nat)) := rcell_of c2 rfl
  have HB : Hid (Below w.heap.size w w1) := below_two hb
  clear hb HU HV c1 c2
  by_cases h1 : k1 = q1
  · have b1 : (((k1 : Nat) : Int) == ((q1 : Nat) : Int)) = true := by simp [h1]
    have HD : Hid (decide ((k1, k2) = (q1, q2)) = decide (k2 = q2)) := by
      show decide ((k1, k2) = (q1, q2)) = decide (k2 = q2)
      simp [h1]
    generalize decide (k2 = q2) = D at *
    go_wp2
    go_ret
    exact ⟨by rw [HD.out]; first | done | rfl, HB.out⟩
  · have b1 : (((k1 : Nat) : Int) == ((q1 : Nat) : Int)) = false := by simp; omega
    have HD : Hid (decide ((k1, k2) = (q1, q2)) = false) := by
      show decide ((k1, k2) = (q1, q2)) = false
      simp [h1]
    generalize decide (k2 = q2) = D at *
    go_wp2
    go_ret
    exact ⟨by rw [HD.out]; first | done | rfl, HB.out⟩

theorem KeyV.below {B : Nat} {w w' : World} {k : Nat × List (Nat × Nat)} {v : Value} (h : KeyV B w k v) (hb : Below w.heap.size w w') : KeyV B w' k v := by
  obtain ⟨u, rfl, hu⟩ := h
  exact ⟨u, rfl, World.ownsRow.kept hu (row := none) ⟨hb.os, hb.tape, hb.output, hb.size, fun j hj _ => hb.block j hj⟩ (by rcases hx : u.ownBlock with _ | x; exact Or.inl rfl; exact Or.inr (by simp))⟩
theorem KeyV.alloc {B : Nat} {w : World} {k : Nat × List (Nat × Nat)} {v : Value} (h : KeyV B w k v) (o : Obj) : KeyV B (w.alloc o) k v := by
  obtain ⟨u, rfl, hu⟩ := h
  exact ⟨u, rfl, hu.alloc _⟩
theorem KeyV.base {B B' : Nat} {w : World} {k : Nat × List (Nat × Nat)} {v : Value} (h : KeyV B w k v) (hb : B' ≤ B) : KeyV B' w k v := by
  obtain ⟨u, rfl, hu⟩ := h
  exact ⟨u, rfl, owns_base hu hb⟩

/-- what KeyOf answers. -/
def KeyOfPost (B : Nat) (p : Option (Nat × List (Nat × Nat))) (w w' : World) (e : Ending) : Prop :=
  Below w.heap.size w w' ∧ match p with
    | none => e = .returned (.tuple #[.agg #[.int .i64 0, .slice none 0 0], .bool false])
    | some k => ∃ v, e = .returned (.tuple #[v, .bool true]) ∧ KeyV B w' k v

theorem below_drew {B : Nat} {w w' : World} (h : Below B w w') : Below B w w'.drew := ⟨h.os, h.tape, h.output, h.size, h.block⟩
theorem keyV_two {B : Nat} {w : World} {k : Nat × List (Nat × Nat)} {v : Value} (h : KeyV B w k v) (o1 o2 : Obj) : KeyOfPost B (some k) w ((w.alloc o1).alloc o2).drew (.returned (.tuple #[v, .bool true])) :=
  ⟨below_drew (((Below.refl _ _).alloc (Nat.le_refl _) _).alloc (by simp) _), v, rfl, by obtain ⟨u, rfl, hu⟩ := (h.alloc o1).alloc o2; exact ⟨u, rfl, hu⟩⟩

set_option maxHeartbeats 1600000 in
theorem keyOf_any (B : Nat) (p : Rp) (d : Nat) (v28 v29 : Value) (w : World) (hd : d ≤ 6) (hl : p.sts.length ≤ 100) (h : w.ownsRow B 86 2 v28 p.sts.length (prs p.sts)) :
    Calls Tryz.prog 30 #[.agg #[.int .i64 (p.en : Nat), .int .i64 (p.fa : Nat), .int .i64 (p.pa : Nat), .int .i64 (p.kd : Nat), v28, v29, .int .i64 (p.k : Nat), .int .i64 p.top], .int .i64 (d : Nat)] w fun e w' => KeyOfPost B (kyR p d) w w' e := by
  obtain ⟨en, fa, pa, kd, sts, eds, k, top⟩ := p
  dsimp only at *
  have HO : Hid (w.ownsRow B 86 2 v28 sts.length (prs sts)) := h
  by_cases he : en = 1
  · have HK : Hid (kyR ⟨en, fa, pa, kd, sts, eds, k, top⟩ d = some (kd, sts.take d)) := by
      show kyR ⟨en, fa, pa, kd, sts, eds, k, top⟩ d = some (kd, sts.take d)
      unfold kyR; rw [if_pos he]
    rw [HK.out]
    subst he
    have HKV : ∀ a cap, v28 = .slice a sts.length cap → Hid (KeyV B w (kd, sts.take d) (.agg #[.int .i64 (kd : Nat), .slice a (min d sts.length) cap])) := by
      intro a cap hv
      rw [hv] at HO
      refine ⟨_, rfl, ?_⟩
      have := owns_takeA HO.out (min d sts.length) (Nat.min_le_right _ _)
      rw [← prs_take] at this
      have e : sts.take (min d sts.length) = sts.take d := by rw [List.take_eq_take_iff]; omega
      rw [e] at this
      simpa [List.length_take] using this
    clear HK
    obtain ⟨-, ⟨hv, h0⟩ | ⟨g, cap, cur, hv, -, -, hnc, hcm, -, -⟩⟩ := h
    · have HV : Hid (KeyV B w (kd, sts.take d) (.agg #[.int .i64 (kd : Nat), .slice none 0 0])) := by
        have := HKV none 0 (by rw [hv, h0])
        rwa [h0, Nat.min_zero] at this
      subst hv
      clear HKV HO h0
      go_enter Tryz.func30, Tryz.ntmps30
      by_cases hd0 : 0 < d
      · go_wp2
        go_region
        go_wp2
        exact bodyPost_ret (v := .tuple #[.agg #[.int .i64 (kd : Nat), .slice none 0 0], .bool true]) (by simp [results, Tryz.results30, go_sem]) rfl (keyV_two HV.out _ _)
      · obtain rfl : d = 0 := by omega
        go_wp2
        go_region
        go_wp2
        exact bodyPost_ret (v := .tuple #[.agg #[.int .i64 (kd : Nat), .slice none 0 0], .bool true]) (by simp [results, Tryz.results30, go_sem]) rfl (keyV_two HV.out _ _)
    · have HV := HKV (some ⟨g, 0, none⟩) cap hv
      subst hv
      unfold maxLen at hcm
      clear HKV HO
      generalize sts.length = len at *
      by_cases hlt : len < d
      · have hmin : min d len = len := by omega
        rw [hmin] at HV
        clear hmin
        go_enter Tryz.func30, Tryz.ntmps30
        go_wp2
        go_region
        go_wp2
        exact bodyPost_ret (v := .tuple #[.agg #[.int .i64 (kd : Nat), .slice (some ⟨g, 0, none⟩) len cap], .bool true]) (by simp [results, Tryz.results30, go_sem]) rfl (keyV_two HV.out _ _)
      · have hmin : min d len = d := by omega
        rw [hmin] at HV
        clear hmin
        go_enter Tryz.func30, Tryz.ntmps30
        go_wp2
        go_region
        go_wp2
        exact bodyPost_ret (v := .tuple #[.agg #[.int .i64 (kd : Nat), .slice (some ⟨g, 0, none⟩) d cap], .bool true]) (by simp [results, Tryz.results30, go_sem]) rfl (keyV_two HV.out _ _)
  · have HK : Hid (kyR ⟨en, fa, pa, kd, sts, eds, k, top⟩ d = none) := by
      show kyR ⟨en, fa, pa, kd, sts, eds, k, top⟩ d = none
      unfold kyR; rw [if_neg he]
    rw [HK.out]
    have b1 : (((en : Nat) : Int) == 1) = false := by simp; omega
    clear HO HK h
    go_enter Tryz.func30, Tryz.ntmps30
    go_wp2
    exact bodyPost_ret (v := .tuple #[.agg #[.int .i64 0, .slice none 0 0], .bool false]) (by simp [results, Tryz.results30, go_sem]) rfl ⟨((Below.refl _ _).alloc (Nat.le_refl _) _).alloc (by simp) _, rfl⟩
end Go.Proofs.YtbmaiioecnmopaaGreatDoor
