/-
  BkG, PureT, TrA, TrS, TrB, TrC: THESE TEXTS, JOINED. By the verifier of the loop 'triage'.
-/
import Derived.Test.YtbmaiioecnmopaaGreatDoorJ36
import Derived.Test.YtbmaiioecnmopaaGreatDoorJ30
import Derived.Deep.QuietTactic
import Derived.Shelf.LaysM
import Derived.Shelf.Sort.Plain
import Derived.Shelf.Slices.Turned
import Derived.Shelf.Slices.In.SortNone
import Derived.Sort.OwnSortedInts
/-
  BUCKETS, THE PROGRAM's SIDE (package triage): Buckets. By the verifier of the loop 'triage'.
-/
namespace Go.Proofs.YtbmaiioecnmopaaGreatDoor
open Go.RowKit

set_option maxHeartbeats 1600000 in
set_option maxRecDepth 100000 in
theorem codeBuckets_any (s : ByteArray) (fuel depth : Int) (L : List ByteArray) (v : Value) (w : World) (hG : Glob w) (hI : Ins L v w) :
    Calls Tryz.prog 8 #[.string s, .int .i64 fuel, .int .i64 depth, v] w fun e w' => BkPost 44 34 s fuel depth L w w' e := by
  have HG : Hid (Glob w) := hG
  have HI : Hid (Ins L v w) := hI
  obtain ⟨a, cap, hv, -⟩ := hI
  subst hv
  obtain ⟨len, HLEN⟩ : ∃ len, Hid (L.length = len) := ⟨_, rfl⟩
  rw [HLEN.out] at HI
  rw [HLEN.out]
  clear hG
  go_enter Tryz.func8, Tryz.ntmps8
  go_wp2_with fail
  refine (setUp_any s fuel depth L _ _ HG.out HI.out).mono ?_
  rintro e w1 ⟨hb1, (⟨hne, rfl⟩ | ⟨hok, bp, bs, bc, cs, rfl, hM, hcs, hcm⟩)⟩
  · have HB : Hid (Below w.heap.size w w1) := hb1
    have hb : ((askP s fuel depth L).1 == 0) = false := by simpa using hne
    have HP : Hid (∀ o, BkPost 44 34 s fuel depth L w (w1.alloc o) (.returned (.tuple #[.slice none 0 0, .int .i64 (askP s fuel depth L).1, .int .i64 (askP s fuel depth L).2]))) := fun o => ⟨HB.out.alloc HB.out.size _, Or.inl ⟨hne, rfl⟩⟩
    clear hb1
    generalize (askP s fuel depth L).1 = c at *
    generalize (askP s fuel depth L).2 = p at *
    go_wp2
    go_ret3
    exact HP.out _
  · have HB : Hid (Below w.heap.size w w1) := hb1
    have HOK : Hid (AskOk s fuel depth L) := hok
    obtain ⟨fu, rfl⟩ : ∃ fu : Nat, fuel = (fu : Int) := ⟨fuel.toNat, by have := HOK.out.fu; omega⟩
    obtain ⟨d, rfl⟩ : ∃ d : Nat, depth = (d : Int) := ⟨depth.toNat, by have := HOK.out.de; omega⟩
    have hf : fu ≤ 2000 := by have := HOK.out.fu; omega
    have hd : d ≤ 6 := by have := HOK.out.de; omega
    have hc := HOK.out.chk
    have hn := HOK.out.n
    have hsz := HOK.out.sz
    have HSM : Hid (SetM s fu d w1.heap.size (w1.alloc (.cells #[.slice (some ⟨bs, 0, none⟩) (Im.bt s 0 + 1) cs, .slice (some ⟨bc, 0, none⟩) s.size s.size, .int .i64 (fu : Nat), .int .i64 (d : Nat)] 66))) := ⟨bp, bs, bc, cs, hM.below ((Below.refl _ _).alloc (Nat.le_refl _) _), hcs, hcm, rheap_new _ _⟩
    have HP : Hid (∀ S M bv w2, BkM 44 34 w.heap.size (Bk.bks (kys s fu d L) (zs L) L.length) S M bv w2 → Below w.heap.size w w2 → BkPost 44 34 s fu d L w w2 (.returned (.tuple #[bv, .int .i64 0, .int .i64 0]))) := by
      intro S M bv w2 h1 h2
      exact ⟨h2, Or.inr ⟨HOK.out, S, M, bv, rfl, h1⟩⟩
    clear hb1 hM hok
    go_wp2_with fail
    refine (sort_any s fu d w1.heap.size L _ _ hc hf hd hn hsz HSM.out (by exact (HI.out.below HB.out).below ((Below.refl _ _).alloc (Nat.le_refl _) _))).mono ?_
    rintro e w2 ⟨S, M, bv, rfl, hbk, hb2⟩
    have HB2 : Hid (Below w.heap.size w w2) := (HB.out.alloc HB.out.size _).trans (hb2.mono (Nat.le_trans HB.out.size (by simp)))
    have HBK : Hid (BkM 44 34 w.heap.size (Bk.bks (kys s fu d L) (zs L) L.length) S M bv w2) := hbk.lower (Nat.le_trans HB.out.size (by simp))
    obtain ⟨a3, cap3, hv3, hc3⟩ := hbk.shape
    subst hv3
    clear hbk hb2 hc3
    generalize Bk.bks (kys s fu d L) (zs L) L.length = l at *
    go_wp2
    go_ret3
    exact HP.out S M _ _ HBK.out HB2.out
end Go.Proofs.YtbmaiioecnmopaaGreatDoor

/-
  THE PLAIN MATHEMATICS of picking: nothing of the dump. By the verifier of the loop 'triage'.
-/
namespace Go.Proofs.YtbmaiioecnmopaaGreatDoor
namespace Tr

/-- the edges of a list that are not met. -/
def fr (met l : List Nat) : List Nat := l.filter fun e => !met.contains e
/-- is input i better than the best so far? (E: the inputs' edges, Z: their lengths) -/
def beats (E : Nat → List Nat) (Z : Nat → Nat) (met : List Nat) (c : Option Nat) (i : Nat) : Bool :=
  match c with
  | none => decide (0 < (fr met (E i)).length)
  | some j => decide ((fr met (E j)).length < (fr met (E i)).length ∨ (fr met (E i)).length = (fr met (E j)).length ∧ Z i < Z j)
/-- the best of the first k inputs. -/
def sel (E : Nat → List Nat) (Z : Nat → Nat) (met : List Nat) : Nat → Option Nat
  | 0 => none
  | k + 1 => if beats E Z met (sel E Z met k) k then some k else sel E Z met k
theorem sel_some {E : Nat → List Nat} {Z : Nat → Nat} {met : List Nat} : ∀ {k j}, sel E Z met k = some j → j < k ∧ 0 < (fr met (E j)).length := by
  intro k
  induction k with
  | zero => intro j h; cases h
  | succ k ih =>
    intro j h
    unfold sel at h
    split at h
    · rename_i hb
      cases h
      refine ⟨by omega, ?_⟩
      cases hs : sel E Z met k with
      | none => rw [hs] at hb; simpa [beats] using hb
      | some i =>
        rw [hs] at hb
        have h1 := (ih hs).2
        simp only [beats, decide_eq_true_eq] at hb
        omega
    · have := ih h; exact ⟨by omega, this.2⟩
theorem sel_none {E : Nat → List Nat} {Z : Nat → Nat} {met : List Nat} : ∀ {k}, sel E Z met k = none → ∀ i, i < k → fr met (E i) = [] := by
  intro k
  induction k with
  | zero => intro _ i hi; omega
  | succ k ih =>
    intro h i hi
    unfold sel at h
    split at h
    · cases h
    · rename_i hb
      rcases Nat.lt_or_ge i k with hlt | hge
      · exact ih h i hlt
      · obtain rfl : i = k := by omega
        rw [h] at hb
        simp only [beats, decide_eq_true_eq] at hb
        exact List.eq_nil_of_length_eq_zero (by omega)
/-- what is picked from a state on, in at most f rounds. -/
def fin (E : Nat → List Nat) (Z : Nat → Nat) (n : Nat) : Nat → List Nat → List Nat → List Nat × List Nat
  | 0, met, pk => (met, pk)
  | f + 1, met, pk => match sel E Z met n with
    | none => (met, pk)
    | some j => fin E Z n f (met ++ E j) (pk ++ [j])
/-- how many inputs have an edge that is not met. -/
def cnt (E : Nat → List Nat) (met : List Nat) (n : Nat) : Nat := ((List.range n).filter fun i => !(fr met (E i)).isEmpty).length
theorem fr_app (met m l : List Nat) : fr (met ++ m) l = fr m (fr met l) := by
  unfold fr
  rw [List.filter_filter]
  congr 1
  funext e
  simp only [List.contains_eq_mem, List.mem_append]
  by_cases h1 : e ∈ met <;> by_cases h2 : e ∈ m <;> simp [h1, h2]
/-- what is taken away: the fresh edges of the best, or all of its edges. -/
theorem fr_fresh (met b l : List Nat) : fr (fr met b) (fr met l) = fr (met ++ b) l := by
  rw [fr_app]
  unfold fr
  rw [List.filter_filter, List.filter_filter]
  congr 1
  funext e
  simp only [List.contains_eq_mem, List.mem_filter]
  by_cases h1 : e ∈ met <;> by_cases h2 : e ∈ b <;> simp [h1, h2]
theorem fr_self (met l : List Nat) : fr (met ++ l) l = [] := by
  rw [fr_app]
  unfold fr
  rw [List.filter_eq_nil_iff]
  intro e he
  simp only [List.mem_filter] at he
  simp [he.1]
theorem fr_nil_app {met m l : List Nat} (h : fr met l = []) : fr (met ++ m) l = [] := by rw [fr_app, h]; rfl
theorem cnt_lt {E : Nat → List Nat} {met : List Nat} {n j : Nat} (hj : j < n) (h : 0 < (fr met (E j)).length) : cnt E (met ++ E j) n < cnt E met n := by
  unfold cnt
  have hsub : ∀ i, (!(fr (met ++ E j) (E i)).isEmpty) = true → (!(fr met (E i)).isEmpty) = true := by
    intro i hi
    cases hf : fr met (E i) with
    | nil => rw [fr_nil_app hf] at hi; simp at hi
    | cons _ _ => rfl
  have hm : (List.range n).filter (fun i => !(fr (met ++ E j) (E i)).isEmpty) = ((List.range n).filter fun i => !(fr met (E i)).isEmpty).filter fun i => !(fr (met ++ E j) (E i)).isEmpty := by
    rw [List.filter_filter]
    congr 1
    funext i
    cases h1 : (!(fr (met ++ E j) (E i)).isEmpty) with
    | false => rfl
    | true => rw [hsub i h1]; rfl
  rw [hm]
  apply List.length_filter_lt_length_iff_exists.2
  refine ⟨j, ?_, ?_⟩
  · rw [List.mem_filter]
    refine ⟨List.mem_range.2 hj, ?_⟩
    cases hf : fr met (E j) with
    | nil => rw [hf] at h; simp at h
    | cons _ _ => rfl
  · rw [fr_self]; simp
theorem fin_more {E : Nat → List Nat} {Z : Nat → Nat} {n : Nat} : ∀ f g met pk, cnt E met n ≤ f → cnt E met n ≤ g → fin E Z n f met pk = fin E Z n g met pk := by
  intro f
  induction f with
  | zero =>
    intro g met pk h1 h2
    cases g with
    | zero => rfl
    | succ g =>
      unfold fin
      split
      · rfl
      · rename_i j hj
        have := sel_some hj
        have := cnt_lt (E := E) (met := met) this.1 this.2
        omega
  | succ f ih =>
    intro g met pk h1 h2
    cases g with
    | zero =>
      unfold fin
      split
      · rfl
      · rename_i j hj
        have := sel_some hj
        have := cnt_lt (E := E) (met := met) this.1 this.2
        omega
    | succ g =>
      unfold fin
      split
      · rfl
      · rename_i j hj
        have := sel_some hj
        have := cnt_lt (E := E) (met := met) this.1 this.2
        exact ih g _ _ (by omega) (by omega)
theorem cnt_le (E : Nat → List Nat) (met : List Nat) (n : Nat) : cnt E met n ≤ n := by
  unfold cnt
  have := List.length_filter_le (fun i => !(fr met (E i)).isEmpty) (List.range n)
  simpa using this
theorem cnt_pos {E : Nat → List Nat} {Z : Nat → Nat} {met : List Nat} {n j : Nat} (h : sel E Z met n = some j) : 0 < cnt E met n := by
  have := sel_some h
  have := cnt_lt (E := E) (met := met) this.1 this.2
  omega
/-- one round. -/
theorem fin_step {E : Nat → List Nat} {Z : Nat → Nat} {n j : Nat} {met pk : List Nat} (h : sel E Z met n = some j) : fin E Z n (cnt E met n) met pk = fin E Z n (cnt E (met ++ E j) n) (met ++ E j) (pk ++ [j]) := by
  have h1 := sel_some h
  have h2 := cnt_lt (E := E) (met := met) h1.1 h1.2
  obtain ⟨k, hk⟩ : ∃ k, cnt E met n = k + 1 := ⟨cnt E met n - 1, by omega⟩
  rw [hk]
  show (match sel E Z met n with | none => (met, pk) | some j => fin E Z n k (met ++ E j) (pk ++ [j])) = _
  rw [h]
  exact fin_more _ _ _ _ (by omega) (Nat.le_refl _)
theorem fin_end {E : Nat → List Nat} {Z : Nat → Nat} {n : Nat} {met pk : List Nat} (h : sel E Z met n = none) : ∀ f, fin E Z n f met pk = (met, pk) := by
  intro f
  cases f with
  | zero => rfl
  | succ f => unfold fin; rw [h]
/-- what is true of the picked ones: all below n, none twice, each has edges, all of them are met, and what is met is theirs. -/
structure Pk (E : Nat → List Nat) (n : Nat) (met pk : List Nat) : Prop where
  lt : ∀ j ∈ pk, j < n
  nd : pk.Nodup
  pos : ∀ j ∈ pk, E j ≠ []
  all : met = pk.flatMap E
theorem Pk.none_fr {E : Nat → List Nat} {n : Nat} {met pk : List Nat} (h : Pk E n met pk) (j : Nat) (hj : j ∈ pk) : fr met (E j) = [] := by
  unfold fr
  rw [List.filter_eq_nil_iff]
  intro e he
  have : e ∈ met := by rw [h.all]; exact List.mem_flatMap.2 ⟨j, hj, he⟩
  simp [this]
theorem pk_start (E : Nat → List Nat) (n : Nat) : Pk E n [] [] := ⟨by simp, List.nodup_nil, by simp, rfl⟩
theorem pk_step {E : Nat → List Nat} {Z : Nat → Nat} {n j : Nat} {met pk : List Nat} (h : Pk E n met pk) (hs : sel E Z met n = some j) : Pk E n (met ++ E j) (pk ++ [j]) := by
  have h1 := sel_some hs
  have hn : j ∉ pk := fun hj => by rw [h.none_fr j hj] at h1; simp at h1
  refine ⟨?_, ?_, ?_, ?_⟩
  · intro i hi
    rcases List.mem_append.1 hi with hi | hi
    · exact h.lt i hi
    · simp at hi; omega
  · rw [List.nodup_append]
    refine ⟨h.nd, by simp, ?_⟩
    intro a ha b hb
    simp at hb
    intro e
    rw [hb] at e
    exact hn (e ▸ ha)
  · intro i hi
    rcases List.mem_append.1 hi with hi | hi
    · exact h.pos i hi
    · simp at hi
      subst hi
      intro he
      rw [he] at h1
      simp [fr] at h1
  · rw [List.flatMap_append, ← h.all]; simp
/-- all that is picked. -/
def picks (E : Nat → List Nat) (Z : Nat → Nat) (n : Nat) : List Nat × List Nat := fin E Z n (cnt E [] n) [] []
theorem fin_pk {E : Nat → List Nat} {Z : Nat → Nat} {n : Nat} : ∀ f met pk, cnt E met n ≤ f → Pk E n met pk → Pk E n (fin E Z n f met pk).1 (fin E Z n f met pk).2 ∧ sel E Z (fin E Z n f met pk).1 n = none := by
  intro f
  induction f with
  | zero =>
    intro met pk h hp
    refine ⟨hp, ?_⟩
    cases hs : sel E Z met n with
    | none => exact hs
    | some j => have := cnt_pos hs; omega
  | succ f ih =>
    intro met pk h hp
    unfold fin
    cases hs : sel E Z met n with
    | none => exact ⟨hp, hs⟩
    | some j =>
      have h1 := sel_some hs
      have h2 := cnt_lt (E := E) (met := met) h1.1 h1.2
      exact ih _ _ (by omega) (pk_step hp hs)
theorem picks_pk (E : Nat → List Nat) (Z : Nat → Nat) (n : Nat) : Pk E n (picks E Z n).1 (picks E Z n).2 ∧ sel E Z (picks E Z n).1 n = none := fin_pk _ _ _ (Nat.le_refl _) (pk_start E n)
/-- the answer: the numbers of those that are picked, rising. -/
def ans (E : Nat → List Nat) (Z : Nat → Nat) (n : Nat) : List Nat := (List.range n).filter fun i => (picks E Z n).2.contains i
end Tr
end Go.Proofs.YtbmaiioecnmopaaGreatDoor

/-
  THE DOCUMENT's SIDE (package triageref): has of any row, fresh. By the verifier of the loop 'triage'.
-/
namespace Go.Proofs.YtbmaiioecnmopaaGreatDoor
open Go.RowKit

theorem hasB_ints (l : List Nat) (n : Nat) : hasB (l.map fun x : Nat => (x : Int)) (n : Int) = l.contains n := by
  unfold hasB
  rw [List.contains_eq_mem]
  apply decide_eq_decide.2
  rw [List.mem_map]
  constructor
  · rintro ⟨a, ha, e⟩
    obtain rfl : a = n := by omega
    exact ha
  · exact fun h => ⟨n, h, rfl⟩

set_option maxHeartbeats 800000 in
theorem has_row (A : Nat) (v : Value) (l : List Nat) (n : Nat) (w : World) (hl : l.length ≤ 100000) (h : w.ownsRow A 3 1 v l.length (ints l)) :
    Calls Tryz.prog 62 #[v, .int .i64 (n : Nat)] w fun e w' => e = .returned (.bool (l.contains n)) ∧ ∃ m, w' = w.drewN m := by
  have hcs := fun g (hg : v.ownBlock = some g) => h.cells hg
  obtain ⟨-, ⟨hv, h0⟩ | ⟨g, cap, cur, hv, -, -, hnc, hcm, -, -⟩⟩ := h
  · have hs : l = [] := List.eq_nil_of_length_eq_zero h0
    subst hs hv
    clear hcs
    go_enter Tryz.func62, Tryz.ntmps62
    go_wp2
    refine wp_loop_rounds 1 ?_
    rw [rounds_succ]
    go_wp2
    go_ret
    exact ⟨rfl, 0, rfl⟩
  · subst hv
    refine (has_any g 0 l.length cap (l.map fun x : Nat => (x : Int)) (n : Int) w (by simp) hl ?_).mono ?_
    · intro k hk
      have := hcs g rfl k _ (ints_get l k hk)
      rw [addr_add] at this
      rw [Nat.zero_add, this]
      simp [List.getD, List.getElem?_map, List.getElem?_eq_getElem hk]
    · rintro e w' ⟨rfl, rfl⟩
      rw [hasB_ints]
      exact ⟨rfl, 0, rfl⟩

theorem fr_step (met l : List Nat) (j : Nat) (h : j < l.length) : (Tr.fr met (l.take (j + 1))).length = (Tr.fr met (l.take j)).length + if met.contains (l[j]?.getD 0) then 0 else 1 := by
  rw [List.take_add_one, List.getElem?_eq_getElem h]
  unfold Tr.fr
  rw [List.filter_append, List.length_append]
  simp only [Option.toList_some, Option.getD_some]
  by_cases hc : l[j] ∈ met
  · simp [hc]
  · simp [hc]

set_option maxHeartbeats 1600000 in
theorem fresh_any (A B : Nat) (a b : Value) (l met : List Nat) (w : World) (hl : l.length ≤ 400) (hm : met.length ≤ 100000) (ha : w.ownsRow A 3 1 a l.length (ints l)) (hb : w.ownsRow B 3 1 b met.length (ints met)) :
    Calls Tryz.prog 36 #[a, b] w fun e w' => e = .returned (.int .i64 ((Tr.fr met l).length : Nat)) ∧ ∃ m, w' = w.drewN m := by
  obtain ⟨a1, cap1, hv1, hn1, hm1, hc1⟩ := owns_shape ha
  obtain ⟨a2, cap2, hv2, -, -, -⟩ := owns_shape hb
  subst hv1 hv2
  have HB : Hid (∀ n, (w.drewN n).ownsRow B 3 1 (.slice a2 met.length cap2) met.length (ints met)) := fun n => hb
  obtain ⟨len, HLEN⟩ : ∃ len, Hid (l.length = len) := ⟨_, rfl⟩
  rw [HLEN.out] at hc1 hl hn1
  rw [HLEN.out]
  unfold maxLen at hm1
  clear ha hb
  go_enter Tryz.func36, Tryz.ntmps36
  go_wp2
  go_loopw [5, 6] (fun c i wr => ∃ j : Nat, i = .int .i64 j ∧ j ≤ len ∧ c = .int .i64 ((Tr.fr met (l.take j)).length : Nat) ∧ ∃ n, wr = w.drewN n) (fun _ i _ => len - (intOf i).toNat)
  case atStart => exact ⟨0, rfl, by omega, rfl, 0, rfl⟩
  case round =>
    obtain ⟨j, rfl, hj, rfl, n, rfl⟩ := hrel
    by_cases hlt : j < len
    · obtain ⟨g1, rfl, -, hg1, hx1⟩ := hc1 (by omega)
      have x1 := hx1 j _ (ints_get l j (by rw [HLEN.out]; exact hlt))
      have HF : Hid ((Tr.fr met (l.take (j + 1))).length = (Tr.fr met (l.take j)).length + if met.contains (l[j]?.getD 0) then 0 else 1) := fr_step met l j (by rw [HLEN.out]; exact hlt)
      have hle : (Tr.fr met (l.take j)).length ≤ 400 := Nat.le_trans (List.length_filter_le _ _) (by have := List.length_take_le j l; have := HLEN.out; omega)
      generalize l[j]?.getD 0 = x at *
      generalize (Tr.fr met (l.take j)).length = c at *
      clear hc1 hx1
      by_cases hx : met.contains x = true
      · rw [if_pos hx] at HF
        go_wp2_with (go_at_call 62; refine (has_row B _ met x _ hm (HB.out _)).mono ?_; rintro e w' ⟨rfl, q, rfl⟩; rw [hx])
        go_roundw
        case rel => exact ⟨j + 1, by go_num, by omega, by rw [HF.out]; go_num, _, rfl⟩
        case measure => simp [intOf]; omega
      · rw [if_neg hx] at HF
        have hx' : met.contains x = false := by simpa using hx
        go_wp2_with (go_at_call 62; refine (has_row B _ met x _ hm (HB.out _)).mono ?_; rintro e w' ⟨rfl, q, rfl⟩; rw [hx'])
        go_roundw
        case rel => exact ⟨j + 1, by go_num, by omega, by rw [HF.out]; go_num, _, rfl⟩
        case measure => simp [intOf]; omega
    · obtain rfl : j = len := by omega
      have HT : Hid (l.take j = l) := List.take_of_length_le (by rw [HLEN.out]; exact Nat.le_refl _)
      rw [HT.out]
      clear hc1
      go_wp2
      go_ret
      exact ⟨rfl, _, rfl⟩
end Go.Proofs.YtbmaiioecnmopaaGreatDoor

/-
  slices.Contains AND slices.Sort AT []int, BY THE SHELF's CONTRACTS. By the verifier of the loop 'triage'.
-/
namespace Go.Proofs.YtbmaiioecnmopaaGreatDoor
open Go.RowKit Go.Shelf

def containsRen : Ren := ⟨fun | 107 => 102 | 108 => 118 | n => n, fun | 28 => 32 | 3 => 3 | 4 => 4 | 0 => 0 | n => n, fun | n => n⟩
theorem containsLays : Lays.n107 Tryz.prog containsRen := {
  mixed := by kernel_rfl
  f107 := Tryz.func102.trans (congrArg some (by kernel_rfl))
  f108 := Tryz.func118.trans (congrArg some (by kernel_rfl))
  t0 := Tryz.underlying0
  a0 := Tryz.isAgg0
  z0 := Tryz.sizeOf0
  v0 := Tryz.zeroValue0
  t3 := Tryz.underlying3
  a3 := Tryz.isAgg3
  z3 := Tryz.sizeOf3
  v3 := Tryz.zeroValue3
  t4 := Tryz.underlying4
  a4 := Tryz.isAgg4
  z4 := Tryz.sizeOf4
  v4 := Tryz.zeroValue4
  t28 := Tryz.underlying32
  a28 := Tryz.isAgg32
  z28 := Tryz.sizeOf32
  v28 := Tryz.zeroValue32 }
def sortRen : Ren := ⟨fun | 189 => 60 | 125 => 101 | 257 => 100 | 128 => 116 | 129 => 117 | 294 => 107 | 295 => 108 | 296 => 109 | 297 => 110 | 298 => 111 | 299 => 112 | 216 => 113 | 300 => 114 | 301 => 115 | 328 => 119 | 329 => 120 | 330 => 121 | 331 => 122 | 332 => 123 | 215 => 124 | 343 => 125 | n => n, fun | 28 => 32 | 3 => 3 | 46 => 186 | 0 => 0 | 51 => 212 | 53 => 214 | 4 => 4 | 183 => 206 | 182 => 205 | 131 => 102 | 5 => 5 | 9 => 9 | 218 => 216 | 222 => 220 | 228 => 223 | 229 => 82 | n => n, fun | n => n⟩
theorem sortLays : Lays.n189 Tryz.prog sortRen := {
  mixed := by kernel_rfl
  f125 := Tryz.func101.trans (congrArg some (by kernel_rfl))
  f128 := Tryz.func116.trans (congrArg some (by kernel_rfl))
  f129 := Tryz.func117.trans (congrArg some (by kernel_rfl))
  f189 := Tryz.func60.trans (congrArg some (by kernel_rfl))
  f215 := Tryz.func124.trans (congrArg some (by kernel_rfl))
  f216 := Tryz.func113.trans (congrArg some (by kernel_rfl))
  f257 := Tryz.func100.trans (congrArg some (by kernel_rfl))
  f294 := Tryz.func107.trans (congrArg some (by kernel_rfl))
  f295 := Tryz.func108.trans (congrArg some (by kernel_rfl))
  f296 := Tryz.func109.trans (congrArg some (by kernel_rfl))
  f297 := Tryz.func110.trans (congrArg some (by kernel_rfl))
  f298 := Tryz.func111.trans (congrArg some (by kernel_rfl))
  f299 := Tryz.func112.trans (congrArg some (by kernel_rfl))
  f300 := Tryz.func114.trans (congrArg some (by kernel_rfl))
  f301 := Tryz.func115.trans (congrArg some (by kernel_rfl))
  f328 := Tryz.func119.trans (congrArg some (by kernel_rfl))
  f329 := Tryz.func120.trans (congrArg some (by kernel_rfl))
  f330 := Tryz.func121.trans (congrArg some (by kernel_rfl))
  f331 := Tryz.func122.trans (congrArg some (by kernel_rfl))
  f332 := Tryz.func123.trans (congrArg some (by kernel_rfl))
  f343 := Tryz.func125.trans (congrArg some (by kernel_rfl))
  t0 := Tryz.underlying0
  a0 := Tryz.isAgg0
  z0 := Tryz.sizeOf0
  v0 := Tryz.zeroValue0
  t3 := Tryz.underlying3
  a3 := Tryz.isAgg3
  z3 := Tryz.sizeOf3
  v3 := Tryz.zeroValue3
  t4 := Tryz.underlying4
  a4 := Tryz.isAgg4
  z4 := Tryz.sizeOf4
  v4 := Tryz.zeroValue4
  t5 := Tryz.underlying5
  a5 := Tryz.isAgg5
  z5 := Tryz.sizeOf5
  v5 := Tryz.zeroValue5
  t9 := Tryz.underlying9
  a9 := Tryz.isAgg9
  z9 := Tryz.sizeOf9
  v9 := Tryz.zeroValue9
  t28 := Tryz.underlying32
  a28 := Tryz.isAgg32
  z28 := Tryz.sizeOf32
  v28 := Tryz.zeroValue32
  t46 := Tryz.underlying186
  a46 := Tryz.isAgg186
  z46 := Tryz.sizeOf186
  v46 := Tryz.zeroValue186
  t51 := Tryz.underlying212
  a51 := Tryz.isAgg212
  z51 := Tryz.sizeOf212
  v51 := Tryz.zeroValue212
  t53 := Tryz.underlying214
  a53 := Tryz.isAgg214
  z53 := Tryz.sizeOf214
  v53 := Tryz.zeroValue214
  t131 := Tryz.underlying102
  a131 := Tryz.isAgg102
  z131 := Tryz.sizeOf102
  v131 := Tryz.zeroValue102
  t182 := Tryz.underlying205
  a182 := Tryz.isAgg205
  z182 := Tryz.sizeOf205
  v182 := Tryz.zeroValue205
  t183 := Tryz.underlying206
  a183 := Tryz.isAgg206
  z183 := Tryz.sizeOf206
  v183 := Tryz.zeroValue206
  t218 := Tryz.underlying216
  a218 := Tryz.isAgg216
  z218 := Tryz.sizeOf216
  v218 := Tryz.zeroValue216
  t222 := Tryz.underlying220
  a222 := Tryz.isAgg220
  z222 := Tryz.sizeOf220
  v222 := Tryz.zeroValue220
  t228 := Tryz.underlying223
  a228 := Tryz.isAgg223
  z228 := Tryz.sizeOf223
  v228 := Tryz.zeroValue223
  t229 := Tryz.underlying82
  a229 := Tryz.isAgg82
  z229 := Tryz.sizeOf82
  v229 := Tryz.zeroValue82 }

theorem intsZ (l : List Nat) : ints l = (l.map fun x : Nat => (x : Int)).map (Value.int .i64) := by simp [ints]
theorem contains_row (A : Nat) (v : Value) (l : List Nat) (n : Nat) (w : World) (h : w.ownsRow A 3 1 v l.length (ints l)) :
    Calls Tryz.prog 102 #[v, .int .i64 (n : Nat)] w fun e w' => e = .returned (.bool (l.contains n)) ∧ w = w' := by
  have hcs := fun g (hg : v.ownBlock = some g) => h.cells hg
  obtain ⟨-, ⟨hv, h0⟩ | ⟨g, cap, cur, hv, -, -, hnc, hcm, -, -⟩⟩ := h
  · have hs : l = [] := List.eq_nil_of_length_eq_zero h0
    subst hs hv
    refine (Any.slices_Contains_int_empty containsLays none 0 (n : Int) w).mono ?_
    rintro e w' ⟨rfl, rfl⟩
    exact ⟨rfl, rfl⟩
  · subst hv
    unfold maxLen at hcm
    refine (Any.slices_Contains_int containsLays g 0 l.length cap (l.map fun x : Nat => (x : Int)) (n : Int) w (by simp) (by omega) ?_).mono ?_
    · intro k hk
      have hk' : k < l.length := by simpa using hk
      have := hcs g rfl k _ (ints_get l k hk')
      rw [addr_add] at this
      rw [Nat.zero_add, this]
      simp [List.getD, List.getElem?_eq_getElem hk']
    · rintro e w' ⟨rfl, rfl⟩
      refine ⟨?_, rfl⟩
      have : (((l.map fun x : Nat => (x : Int)).take l.length).contains (n : Int)) = l.contains n := by
        rw [List.take_of_length_le (by simp), List.contains_eq_mem, List.contains_eq_mem]
        apply decide_eq_decide.2
        rw [List.mem_map]
        constructor
        · rintro ⟨a, ha, e⟩
          obtain rfl : a = n := by omega
          exact ha
        · exact fun h => ⟨n, h, rfl⟩
      rw [this]
/-- the list, sorted. -/
def srt (l : List Nat) : List Nat := l.mergeSort fun x y => decide (x ≤ y)
theorem srt_len (l : List Nat) : (srt l).length = l.length := List.length_mergeSort l
theorem sort_row (A : Nat) (v : Value) (l : List Nat) (w : World) (hl : l.length ≤ 1000) (h : w.ownsRow A 3 1 v l.length (ints l)) :
    Calls Tryz.prog 60 #[v] w fun e w' => e = .returned (.tuple #[]) ∧ w'.ownsRow A 3 1 v l.length (ints (srt l)) ∧ w.grownBy w' v.ownBlock := by
  obtain ⟨h0, ⟨hv, hz⟩ | ⟨g, cap, cur, hv, hb, hg, hnc, hcm, hcs, ht⟩⟩ := h
  · have hs : l = [] := List.eq_nil_of_length_eq_zero hz
    subst hs hv
    refine (Any.slices_Sort_int_none sortLays none 0 w).mono ?_
    rintro e w' ⟨rfl, rfl⟩
    exact ⟨rfl, by rw [show srt [] = [] by simp [srt]]; exact World.ownsRow_nil _ _ _ _, ⟨rfl, rfl, rfl, Nat.le_refl _, fun _ _ _ => rfl⟩⟩
  · subst hv
    have hlen : (l.map fun x : Nat => (x : Int)).length = l.length := by simp
    have hH := holds_of_blockI (ss := l.map fun x : Nat => (x : Int)) hg (by rw [hlen, ← intsZ, ← ht, Nat.mul_one])
    have hc := Any.slices_Sort_int sortLays g 0 cap (l.map fun x : Nat => (x : Int)) w hH (Array.getElem?_eq_some_iff.1 hg).1 (by rw [hlen]; omega)
    rw [hlen] at hc
    refine hc.mono ?_
    rintro e w' ⟨rfl, n, os, rfl⟩
    have hm : ((l.map fun x : Nat => (x : Int)).mergeSort fun x y => decide (x ≤ y)) = (srt l).map fun x : Nat => (x : Int) := by
      unfold srt
      rw [List.map_mergeSort]
      intro a _ b _
      simp
    refine ⟨rfl, ?_, grownBy_sortedI _⟩
    rw [hm, intsZ]
    have := ownsRow_sortedI (n := n) (os := os) (ss := l.map fun x : Nat => (x : Int)) (ts := (srt l).map fun x : Nat => (x : Int)) (by simp [srt_len]) hb hg (by rw [hlen]; exact hnc) hcm hcs
    rw [hlen] at this
    exact this
end Go.Proofs.YtbmaiioecnmopaaGreatDoor

/-
  THE PROGRAM's SIDE (package triage): lacking, beats. By the verifier of the loop 'triage'.
-/
namespace Go.Proofs.YtbmaiioecnmopaaGreatDoor
open Go.RowKit

theorem fr_snoc (met l : List Nat) (j : Nat) (h : j < l.length) : Tr.fr met (l.take (j + 1)) = if met.contains (l[j]?.getD 0) then Tr.fr met (l.take j) else Tr.fr met (l.take j) ++ [l[j]?.getD 0] := by
  rw [List.take_add_one, List.getElem?_eq_getElem h]
  unfold Tr.fr
  rw [List.filter_append]
  simp only [Option.toList_some, Option.getD_some]
  by_cases hc : l[j] ∈ met
  · simp [hc]
  · simp [hc]

set_option maxHeartbeats 1600000 in
set_option maxRecDepth 100000 in
theorem lacking_any (A B : Nat) (a b : Value) (l met : List Nat) (w : World) (hl : l.length ≤ 400) (ha : w.ownsRow A 3 1 a l.length (ints l)) (hb : w.ownsRow B 3 1 b met.length (ints met)) :
    Calls Tryz.prog 61 #[a, b] w fun e w' => ∃ v, e = .returned v ∧ w'.ownsRow w.heap.size 3 1 v (Tr.fr met l).length (ints (Tr.fr met l)) ∧ Below w.heap.size w w' := by
  obtain ⟨i0, hi, hz0, hz1, hz2⟩ := info_parts Tryz.infoInt
  obtain ⟨a1, cap1, hv1, hn1, hm1, hc1⟩ := owns_shape ha
  obtain ⟨a2, cap2, hv2, -, -, -⟩ := owns_shape hb
  subst hv1 hv2
  have HB : Hid (w.ownsRow B 3 1 (.slice a2 met.length cap2) met.length (ints met)) := hb
  obtain ⟨len, HLEN⟩ : ∃ len, Hid (l.length = len) := ⟨_, rfl⟩
  rw [HLEN.out] at hc1 hl hn1
  rw [HLEN.out]
  unfold maxLen at hm1
  clear ha hb
  go_enter Tryz.func61, Tryz.ntmps61
  go_wp2
  go_loopw [5, 10] (fun v i wr => ∃ j : Nat, i = .int .i64 j ∧ j ≤ len ∧ wr.ownsRow w.heap.size 3 1 v (Tr.fr met (l.take j)).length (ints (Tr.fr met (l.take j))) ∧ Below w.heap.size w wr) (fun _ i _ => len - (intOf i).toNat)
  case atStart => exact ⟨0, rfl, by omega, World.ownsRow_nil _ _ _ _, Below.refl _ _⟩
  case round =>
    obtain ⟨j, rfl, hj, hown, hb⟩ := hrel
    by_cases hlt : j < len
    · obtain ⟨g1, rfl, -, hg1, hx1⟩ := hc1 (by omega)
      have x1 := (hb.cell (p := ⟨g1, j, none⟩) hg1).trans (hx1 j _ (ints_get l j (by rw [HLEN.out]; exact hlt)))
      have HF := fr_snoc met l j (by rw [HLEN.out]; exact hlt)
      have hle : (Tr.fr met (l.take j)).length ≤ 400 := Nat.le_trans (List.length_filter_le _ _) (by have := List.length_take_le j l; have := HLEN.out; omega)
      have HB2 : Hid (wr.ownsRow B 3 1 (.slice a2 met.length cap2) met.length (ints met)) := World.ownsRow.kept (row := none) HB.out ⟨hb.os, hb.tape, hb.output, hb.size, fun k hk _ => hb.block k hk⟩ (by rcases hx : (Value.slice a2 met.length cap2).ownBlock with _ | x; exact Or.inl rfl; exact Or.inr (by simp))
      generalize l[j]?.getD 0 = x at *
      obtain ⟨a3, cap3, hv3, -, -, -⟩ := owns_shape hown
      subst hv3
      by_cases hx : met.contains x = true
      · rw [if_pos hx] at HF
        have HR : Hid (wr.ownsRow w.heap.size 3 1 (.slice a3 (Tr.fr met (l.take j)).length cap3) (Tr.fr met (l.take (j + 1))).length (ints (Tr.fr met (l.take (j + 1))))) := by rw [HF]; exact hown
        have HBw : Hid (Below w.heap.size w wr) := hb
        clear hc1 hx1 hown hb HF
        go_wp2_with (go_at_call 102; refine (contains_row B _ met x _ HB2.out).mono ?_; rintro e w' ⟨rfl, rfl⟩; rw [hx])
        go_roundw
        case rel => exact ⟨j + 1, by go_num, by omega, HR.out, HBw.out⟩
        case measure => simp [intOf]; omega
      · rw [if_neg hx] at HF
        have hx' : met.contains x = false := by simpa using hx
        have HF2 : Hid (Tr.fr met (l.take (j + 1)) = Tr.fr met (l.take j) ++ [x]) := HF
        generalize Tr.fr met (l.take j) = X at *
        clear hc1 hx1 HF
        go_wp2_with (first
          | (go_at_call 102; refine (contains_row B _ met x _ HB2.out).mono ?_; rintro e w' ⟨rfl, rfl⟩; rw [hx'])
          | (at_builtin; (refine wpList_append_own _ rfl _ _ 32 rfl w.heap.size 3 i0 (.int .i64 0) 1 8 Tryz.undInts hi hz0 hz1 hz2 rfl (by decide) _ _ _ rfl (hown.alloc _) ⟨wr.heap.size, 0, none⟩ 1 1 [.int .i64 (x : Nat)] rfl rfl ?c1 ?c2 ?c3 ?c4 ?c5 ?_)))
        case c1 =>
          intro i u hj
          match i, hj with
          | 0, hj => simp at hj; subst hj; simp [Addr.add]
        case c2 => intro u hu; simp at hu; subst hu; rfl
        case c3 => unfold maxLen; omega
        case c4 => omega
        case c5 => have := hb.size; simp; omega
        · intro v' w1 hown' hgrow _
          have hb1 := below_app hown hgrow hb hb.size
          have ho1 : w1.ownsRow w.heap.size 3 1 v' (Tr.fr met (l.take (j + 1))).length (ints (Tr.fr met (l.take (j + 1)))) := by rw [HF2.out]; simpa [ints] using hown'
          clear hown' hgrow hown hb
          go_wp2
          go_roundw
          case rel => exact ⟨j + 1, by go_num, by omega, ho1, hb1⟩
          case measure => simp [intOf]; omega
    · obtain rfl : j = len := by omega
      rw [List.take_of_length_le (by rw [HLEN.out]; exact Nat.le_refl _)] at hown
      obtain ⟨a3, cap3, hv3, -, -, -⟩ := owns_shape hown
      subst hv3
      have HO : Hid (wr.ownsRow w.heap.size 3 1 (.slice a3 (Tr.fr met l).length cap3) (Tr.fr met l).length (ints (Tr.fr met l))) := hown
      have HBw : Hid (Below w.heap.size w wr) := hb
      clear hown hb hc1
      go_wp2
      go_ret
      exact ⟨_, rfl, HO.out, HBw.out⟩
end Go.Proofs.YtbmaiioecnmopaaGreatDoor

/-
  THE PROGRAM's SIDE (package triage): beats. By the verifier of the loop 'triage'.
-/
namespace Go.Proofs.YtbmaiioecnmopaaGreatDoor
open Go.RowKit

/-- does a way of length z1 with n1 fresh edges beat one of length z2 with n2? -/
def btB (z1 n1 z2 n2 : Nat) : Bool := decide (n2 < n1 ∨ n1 = n2 ∧ z1 < z2)

set_option maxHeartbeats 800000 in
theorem beats_any (z1 n1 c1 z2 n2 c2 : Nat) (a1 a2 : Option Addr) (w : World) :
    Calls Tryz.prog 59 #[.agg #[.int .i64 (z1 : Nat), .slice a1 n1 c1], .agg #[.int .i64 (z2 : Nat), .slice a2 n2 c2]] w fun e w' => e = .returned (.bool (btB z1 n1 z2 n2)) ∧ Below w.heap.size w w' := by
  by_cases hn : n1 = n2
  · subst hn
    have HD : Hid (btB z1 n1 z2 n1 = decide ((z1 : Int) < (z2 : Int))) := by
      show btB z1 n1 z2 n1 = decide ((z1 : Int) < (z2 : Int))
      unfold btB
      apply decide_eq_decide.2
      omega
    go_enter Tryz.func59, Tryz.ntmps59
    go_wp2
    go_ret
    refine ⟨?_, ?_⟩
    · rw [HD.out]; first | done | rfl | simp
    · first | exact ((Below.refl _ _).alloc (Nat.le_refl _) _).alloc (by simp) _ | exact below_drewP _ (((Below.refl _ _).alloc (Nat.le_refl _) _).alloc (by simp) _)
  · have HD : Hid (btB z1 n1 z2 n2 = decide ((n2 : Int) < (n1 : Int))) := by
      show btB z1 n1 z2 n2 = decide ((n2 : Int) < (n1 : Int))
      unfold btB
      apply decide_eq_decide.2
      omega
    have hb : (((n1 : Nat) : Int) == ((n2 : Nat) : Int)) = false := by simp; omega
    have hb2 : (((n1 : Nat) : Int) != ((n2 : Nat) : Int)) = true := by simp; omega
    go_enter Tryz.func59, Tryz.ntmps59
    go_wp2
    go_ret
    refine ⟨?_, ?_⟩
    · rw [HD.out]; first | done | rfl | simp
    · first | exact ((Below.refl _ _).alloc (Nat.le_refl _) _).alloc (by simp) _ | exact below_drewP _ (((Below.refl _ _).alloc (Nat.le_refl _) _).alloc (by simp) _)
end Go.Proofs.YtbmaiioecnmopaaGreatDoor
