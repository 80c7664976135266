/-
  LawC, InsT, PureU, BkA, BkB, BkC: THESE TEXTS, JOINED. By the verifier of the loop 'triage'.
-/
import Derived.Test.YtbmaiioecnmopaaGreatDoorJ32
import Derived.Test.YtbmaiioecnmopaaGreatDoorJ05
import Derived.Test.YtbmaiioecnmopaaGreatDoorJ30
import Derived.SliceStrings
import Derived.Carry
import Derived.Test.YtbmaiioecnmopaaGreatDoorJ29
import Derived.Maps.AppendAt
import Derived.Test.YtbmaiioecnmopaaGreatDoorJ33
import Derived.Maps.OwnSet
import Derived.DeepKeys4
import Derived.Test.YtbmaiioecnmopaaGreatDoorJ28
/-
  THE LAW Runs: sites, SameSites, SameInts, report. By the verifier of the loop 'triage'.
-/
namespace Go.Proofs.YtbmaiioecnmopaaGreatDoor
open Go.RowKit

set_option maxHeartbeats 3200000 in
set_option maxRecDepth 100000 in
theorem sameInts_any (A B : Nat) (a b : Value) (l : List Nat) (w : World) (ha : w.ownsRow A 3 1 a l.length (ints l)) (hb : w.ownsRow B 3 1 b l.length (ints l)) :
    Calls Tryz.prog 19 #[a, b] w fun e w' => e = .returned (.bool true) ∧ Below w.heap.size w w' := by
  obtain ⟨a1, cap1, hv1, hn1, hm1, hc1⟩ := owns_shape ha
  obtain ⟨a2, cap2, hv2, hn2, hm2, hc2⟩ := owns_shape hb
  subst hv1 hv2
  have hl : l.length ≤ maxLen := by omega
  unfold maxLen at hl
  obtain ⟨len, HLEN⟩ : ∃ len, Hid (l.length = len) := ⟨_, rfl⟩
  rw [HLEN.out] at hc1 hc2 hl ⊢
  clear ha hb hn1 hm1 hn2 hm2
  go_enter Tryz.func19, Tryz.ntmps19
  go_wp2
  go_loopw [5] (fun i wr => ∃ j : Nat, i = .int .i64 j ∧ j ≤ len ∧ Below w.heap.size w wr) (fun i _ => len - (intOf i).toNat)
  case atStart => exact ⟨0, rfl, by omega, Below.refl _ _⟩
  case round =>
    obtain ⟨j, rfl, hj, hB⟩ := hrel
    by_cases hlt : j < len
    · obtain ⟨g1, rfl, -, hg1, hx1⟩ := hc1 (by omega)
      obtain ⟨g2, rfl, -, hg2, hx2⟩ := hc2 (by omega)
      have x1 := (hB.cell (p := ⟨g1, j, none⟩) hg1).trans (hx1 j _ (ints_get l j (by rw [HLEN.out]; exact hlt)))
      have x2 := (hB.cell (p := ⟨g2, j, none⟩) hg2).trans (hx2 j _ (ints_get l j (by rw [HLEN.out]; exact hlt)))
      generalize l[j]?.getD 0 = x at *
      have HB : Hid _ := hB
      clear hc1 hc2 hx1 hx2 hB
      go_wp2
      go_quiet (fail)
      go_wp2
      go_roundw
      case rel => exact ⟨j + 1, by go_num, by omega, by first | exact HB.out | exact below_drewN _ HB.out | exact below_drewN _ (below_drewN _ HB.out)⟩
      case measure => simp [intOf]; omega
    · obtain rfl : j = len := by omega
      have HB : Hid _ := hB
      clear hc1 hc2 hB
      go_wp2
      go_ret
      exact ⟨rfl, HB.out⟩

set_option maxHeartbeats 3200000 in
set_option maxRecDepth 100000 in
theorem sameSites_any (A B : Nat) (a b : Value) (l : List (Nat × Nat)) (w : World) (hl : l.length ≤ 100) (ha : w.ownsRow A 86 2 a l.length (prs l)) (hb : w.ownsRow B 86 2 b l.length (prs l)) :
    Calls Tryz.prog 99 #[a, b] w fun e w' => e = .returned (.bool true) ∧ Below w.heap.size w w' := by
  obtain ⟨a1, cap1, hv1, hn1, hm1, hc1⟩ := owns_shape ha
  obtain ⟨a2, cap2, hv2, hn2, hm2, hc2⟩ := owns_shape hb
  subst hv1 hv2
  obtain ⟨len, HLEN⟩ : ∃ len, Hid (l.length = len) := ⟨_, rfl⟩
  rw [HLEN.out] at hc1 hc2 hl ⊢
  clear ha hb hn1 hm1 hn2 hm2
  go_enter Tryz.func99, Tryz.ntmps99
  go_wp2
  go_loopw [5] (fun i wr => ∃ j : Nat, i = .int .i64 j ∧ j ≤ len ∧ Below w.heap.size w wr) (fun i _ => len - (intOf i).toNat)
  case atStart => exact ⟨0, rfl, by omega, Below.refl _ _⟩
  case round =>
    obtain ⟨j, rfl, hj, hB⟩ := hrel
    by_cases hlt : j < len
    · obtain ⟨g1, rfl, -, hg1, hx1⟩ := hc1 (by omega)
      obtain ⟨g2, rfl, -, hg2, hx2⟩ := hc2 (by omega)
      obtain ⟨q0, q1⟩ := prs_get l j (by rw [HLEN.out]; exact hlt)
      have x1 := (hB.cell (p := ⟨g1, j * 2, none⟩) hg1).trans (hx1 _ _ q0)
      have x2 := (hB.cell (p := ⟨g2, j * 2, none⟩) hg2).trans (hx2 _ _ q0)
      have y1 := (hB.cell (p := ⟨g1, j * 2 + 1, none⟩) hg1).trans (hx1 _ _ q1)
      have y2 := (hB.cell (p := ⟨g2, j * 2 + 1, none⟩) hg2).trans (hx2 _ _ q1)
      generalize l[j]?.getD (0, 0) = x at *
      have HB : Hid _ := hB
      clear hc1 hc2 hx1 hx2 hB q0 q1
      go_wp2
      go_quiet (fail)
      go_wp2
      go_roundw
      case rel => exact ⟨j + 1, by go_num, by omega, by first | exact HB.out | exact below_drewN _ HB.out | exact below_drewN _ (below_drewN _ HB.out)⟩
      case measure => simp [intOf]; omega
    · obtain rfl : j = len := by omega
      have HB : Hid _ := hB
      clear hc1 hc2 hB
      go_wp2
      go_ret
      exact ⟨rfl, HB.out⟩
end Go.Proofs.YtbmaiioecnmopaaGreatDoor

/-
  A LIST OF INPUTS AMONG THE ARGUMENTS OF A CARD, OPENED. By the verifier of the loop 'triage'.
-/
namespace Go.Proofs.YtbmaiioecnmopaaGreatDoor
open Go.ChangeShapes Go.WideShapes Go.ChangeAt Go.RowKit

theorem Tryz.laidOut : laidOutB Tryz.prog = true := by kernel_rfl
theorem Tryz.undStrs : Tryz.prog.underlying 22 = some (.slice 9) := by kernel_rfl
set_option maxRecDepth 100000 in
theorem ins_of_trod {H : Type} {enc : TypeId × Value → H} {W : World} {base : Nat} {v : Value} {d : DataW H} {p : List MemPlace} (hv : Value.okWide Tryz.prog W .any base 22 v)
    (h : DataW.Trod enc Tryz.prog W 0 (fun _ => true) true 22 v d p) (hlt : ∀ x ∈ p, x.block < W.heap.size) : ∃ L, Ins L v W := by
  obtain ⟨a0, len, cap, rfl⟩ := okWide_slice Tryz.undStrs hv
  obtain ⟨fuel, hf⟩ := h
  rcases open_strings Tryz.undStrs Tryz.underlying9 Tryz.cellsStr hf with ⟨hcs, hx⟩ | ⟨a, len', cap', ss, hcs, _, hl, hm, hz, hx, hcell, hsz⟩
  · simp [Value.cells] at hcs
    obtain ⟨rfl, rfl, rfl⟩ := hcs
    exact ⟨[], none, 0, rfl, Nat.le_refl _, Nat.zero_le _, fun h => absurd h (by simp), by simp⟩
  · simp [Value.cells] at hcs
    obtain ⟨rfl, rfl, rfl⟩ := hcs
    simp only [Prod.mk.injEq] at hx
    obtain ⟨rfl, rfl⟩ := hx
    simp only [if_true] at hz
    have hlen : (ss.take len).length = len := by simp; omega
    refine ⟨ss.take len, some a, cap, by rw [hlen], by rw [hlen]; exact hl, hm, ?_, fun s hs => hsz s (List.mem_of_mem_take hs)⟩
    rw [hlen]
    intro h0
    obtain ⟨b, off, spot⟩ := a
    have hspot : spot = none := by simpa [Addr.add] using World.cell?_spot (hcell 0 (by omega))
    subst hspot
    refine ⟨b, off, rfl, hlt (.cell b off) (MemPlace.mem_row.2 ⟨0, by omega, by simp⟩), fun i hi => ?_⟩
    have h1 := hcell i (by omega)
    rw [List.getElem?_take_of_lt hi]
    rw [List.getD_eq_getElem?_getD] at h1
    rw [add_plain] at h1
    exact h1
end Go.Proofs.YtbmaiioecnmopaaGreatDoor

/-
  THE PLAIN MATHEMATICS of buckets (P5): nothing of the dump. By the verifier of the loop 'triage'.
-/
namespace Go.Proofs.YtbmaiioecnmopaaGreatDoor
namespace Bk

/-- a key: the kind, and the sites that count. -/
abbrev Ky := Nat × List (Nat × Nat)
structure Bk where
  key : Ky
  mem : List Nat
  rep : Nat
def none0 : Bk := ⟨(0, []), [], 0⟩
/-- which bucket has a key: its number, or how many there are. -/
def idx : List Bk → Ky → Nat
  | [], _ => 0
  | b :: l, k => if b.key = k then 0 else idx l k + 1
theorem idx_le (l : List Bk) (k : Ky) : idx l k ≤ l.length := by
  induction l with
  | nil => exact Nat.le_refl _
  | cons b l ih => unfold idx; split <;> simp; omega
theorem idx_at (l : List Bk) (k : Ky) (h : idx l k < l.length) : ∃ b, l[idx l k]? = some b ∧ b.key = k := by
  induction l with
  | nil => simp at h
  | cons b l ih =>
    unfold idx at h ⊢
    split
    · rename_i e; exact ⟨b, rfl, e⟩
    · rename_i e
      rw [if_neg e] at h
      obtain ⟨c, hc, hk⟩ := ih (by simpa using h)
      exact ⟨c, by simpa using hc, hk⟩
theorem idx_no (l : List Bk) (k : Ky) : ∀ i b, i < idx l k → l[i]? = some b → b.key ≠ k := by
  induction l with
  | nil => intro i b h; simp [idx] at h
  | cons c l ih =>
    intro i b h hb
    unfold idx at h
    split at h
    · omega
    · rename_i e
      cases i with
      | zero => simp at hb; subst hb; exact e
      | succ i => exact ih i b (by omega) (by simpa using hb)
/-- with a bucket for that key. -/
def add (l : List Bk) (k : Ky) (i : Nat) : List Bk := if idx l k < l.length then l else l ++ [⟨k, [], i⟩]
/-- with a member more in that bucket. -/
def one (Z : Nat → Nat) (b : Bk) (i : Nat) : Bk := ⟨b.key, b.mem ++ [i], if Z i < Z b.rep then i else b.rep⟩
def put (Z : Nat → Nat) (l : List Bk) (n i : Nat) : List Bk := l.set n (one Z (l[n]?.getD none0) i)
/-- the buckets of the first n inputs. -/
def bks (K : Nat → Option Ky) (Z : Nat → Nat) : Nat → List Bk
  | 0 => []
  | i + 1 => match K i with
    | none => bks K Z i
    | some k => put Z (add (bks K Z i) k i) (idx (bks K Z i) k) i
theorem add_len (l : List Bk) (k : Ky) (i : Nat) : idx l k < (add l k i).length := by
  unfold add
  split
  · assumption
  · have := idx_le l k; simp; omega
theorem put_len (Z : Nat → Nat) (l : List Bk) (n i : Nat) : (put Z l n i).length = l.length := by simp [put]
theorem add_le (l : List Bk) (k : Ky) (i : Nat) : (add l k i).length ≤ l.length + 1 := by unfold add; split <;> simp
theorem bks_len (K : Nat → Option Ky) (Z : Nat → Nat) : ∀ n, (bks K Z n).length ≤ n := by
  intro n
  induction n with
  | zero => exact Nat.le_refl _
  | succ n ih =>
    unfold bks
    split
    · omega
    · rename_i k _
      rw [put_len]
      have := add_le (bks K Z n) k n
      omega
theorem map_set_same {l : List Bk} {n : Nat} {b : Bk} (h : b.key = (l[n]?.getD none0).key) (hn : n < l.length) : (l.set n b).map (·.key) = l.map (·.key) := by
  rw [List.map_set, h]
  apply List.ext_getElem
  · simp
  · intro i h1 h2
    rw [List.getElem_set]
    split
    · rename_i e
      subst e
      simp [List.getElem?_eq_getElem hn]
    · rfl
theorem idx_keys (l m : List Bk) (k : Ky) (h : l.map (·.key) = m.map (·.key)) : idx l k = idx m k := by
  induction l generalizing m with
  | nil => cases m with
    | nil => rfl
    | cons _ _ => simp at h
  | cons b l ih => cases m with
    | nil => simp at h
    | cons c m =>
      simp at h
      unfold idx
      rw [h.1, ih m h.2]
theorem put_keys (Z : Nat → Nat) (l : List Bk) (n i : Nat) (hn : n < l.length) : (put Z l n i).map (·.key) = l.map (·.key) := map_set_same rfl hn
/-- the number of a key that has a bucket stays; a new one is the last. -/
theorem idx_put (Z : Nat → Nat) (l : List Bk) (n i : Nat) (hn : n < l.length) (k : Ky) : idx (put Z l n i) k = idx l k := idx_keys _ _ _ (put_keys Z l n i hn)
theorem idx_app (l : List Bk) (b : Bk) (k : Ky) : idx (l ++ [b]) k = if idx l k < l.length then idx l k else if b.key = k then l.length else l.length + 1 := by
  induction l with
  | nil => simp [idx]
  | cons c l ih =>
    show idx (c :: (l ++ [b])) k = _
    unfold idx
    by_cases e : c.key = k
    · simp [e]
    · rw [if_neg e, if_neg e, ih]
      simp
      by_cases h : idx l k < l.length
      · simp [h]
      · simp [h]; split <;> rfl
theorem put_rep (Z : Nat → Nat) (l : List Bk) (n i m : Nat) (hn : n < l.length) (h : ∀ b ∈ l, b.rep < m) (hi : i < m) : ∀ b ∈ put Z l n i, b.rep < m := by
  intro b hb
  unfold put at hb
  rcases List.mem_or_eq_of_mem_set hb with h1 | rfl
  · exact h b h1
  · unfold one
    dsimp only
    split
    · exact hi
    · rw [List.getElem?_eq_getElem hn]; exact h _ (List.getElem_mem hn)
theorem bks_rep (K : Nat → Option Ky) (Z : Nat → Nat) : ∀ n, ∀ b ∈ bks K Z n, b.rep < n := by
  intro n
  induction n with
  | zero => intro b hb; cases hb
  | succ n ih =>
    unfold bks
    split
    · intro b hb; have := ih b hb; omega
    · rename_i k _
      refine put_rep Z _ _ _ _ (add_len _ _ _) ?_ (Nat.lt_succ_self _)
      intro b hb
      unfold add at hb
      split at hb
      · have := ih b hb; omega
      · rcases List.mem_append.1 hb with h | h
        · have := ih b h; omega
        · simp at h; subst h; exact Nat.lt_succ_self _
theorem bks_key (K : Nat → Option Ky) (Z : Nat → Nat) (p : Ky → Prop) (hK : ∀ i k, K i = some k → p k) : ∀ n, ∀ b ∈ bks K Z n, p b.key := by
  intro n
  induction n with
  | zero => intro b hb; cases hb
  | succ n ih =>
    unfold bks
    split
    · exact ih
    · rename_i k hk
      have hadd : ∀ b ∈ add (bks K Z n) k n, p b.key := by
        intro b hb
        unfold add at hb
        split at hb
        · exact ih b hb
        · rcases List.mem_append.1 hb with h | h
          · exact ih b h
          · simp at h; subst h; exact hK _ _ hk
      intro b hb
      unfold put at hb
      rcases List.mem_or_eq_of_mem_set hb with h1 | rfl
      · exact hadd b h1
      · unfold one
        dsimp only
        rw [List.getElem?_eq_getElem (add_len _ _ _)]
        exact hadd _ (List.getElem_mem _)
theorem one_mem_len (K : Nat → Option Ky) (Z : Nat → Nat) : ∀ n, ∀ b ∈ bks K Z n, b.mem.length ≤ n := by
  intro n
  induction n with
  | zero => intro b hb; cases hb
  | succ n ih =>
    unfold bks
    split
    · intro b hb; have := ih b hb; omega
    · rename_i k hk
      have hadd : ∀ b ∈ add (bks K Z n) k n, b.mem.length ≤ n := by
        intro b hb
        unfold add at hb
        split at hb
        · exact ih b hb
        · rcases List.mem_append.1 hb with h | h
          · exact ih b h
          · simp at h; subst h; exact Nat.zero_le _
      intro b hb
      unfold put at hb
      rcases List.mem_or_eq_of_mem_set hb with h1 | rfl
      · have := hadd b h1; omega
      · unfold one
        dsimp only
        rw [List.getElem?_eq_getElem (add_len _ _ _)]
        have := hadd _ (List.getElem_mem (add_len (bks K Z n) k n))
        simp
        exact this
end Bk
end Go.Proofs.YtbmaiioecnmopaaGreatDoor

/-
  BUCKETS IN MEMORY: a row of buckets of four cells (kind, sites, members, the one that stands for all), and each one's two rows. By the verifier of the loop 'triage'.
-/
namespace Go.Proofs.YtbmaiioecnmopaaGreatDoor
open Go.RowKit

theorem own_kept {w w' : World} {base : Nat} {e : TypeId} {size : Nat} {v : Value} {n : Nat} {xs : List Value} (h : w.ownsRow base e size v n xs) (hb : Below w.heap.size w w') : w'.ownsRow base e size v n xs :=
  World.ownsRow.kept (row := none) h ⟨hb.os, hb.tape, hb.output, hb.size, fun k hk _ => hb.block k hk⟩ (by rcases hx : v.ownBlock with _ | x; exact Or.inl rfl; exact Or.inr (by simp))
def bkAt (l : List Bk.Bk) (i : Nat) : Bk.Bk := l[i]?.getD Bk.none0
theorem bkAt_app_lt {l m : List Bk.Bk} {i : Nat} (h : i < l.length) : bkAt (l ++ m) i = bkAt l i := by unfold bkAt; rw [List.getElem?_append_left h]
theorem bkAt_app_eq (l : List Bk.Bk) (b : Bk.Bk) : bkAt (l ++ [b]) l.length = b := by unfold bkAt; simp
theorem bkAt_set_eq {l : List Bk.Bk} {i : Nat} (b : Bk.Bk) (h : i < l.length) : bkAt (l.set i b) i = b := by unfold bkAt; rw [List.getElem?_set_self h]; rfl
theorem bkAt_set_ne {l : List Bk.Bk} {i j : Nat} (b : Bk.Bk) (h : i ≠ j) : bkAt (l.set i b) j = bkAt l j := by unfold bkAt; rw [List.getElem?_set_ne h]
/-- with a member more; with another that stands for all. -/
def addm (l : List Bk.Bk) (i j : Nat) : List Bk.Bk := l.set i ⟨(bkAt l i).key, (bkAt l i).mem ++ [j], (bkAt l i).rep⟩
def setr (l : List Bk.Bk) (i j : Nat) : List Bk.Bk := l.set i ⟨(bkAt l i).key, (bkAt l i).mem, j⟩
theorem addm_len (l : List Bk.Bk) (i j : Nat) : (addm l i j).length = l.length := by simp [addm]
theorem setr_len (l : List Bk.Bk) (i j : Nat) : (setr l i j).length = l.length := by simp [setr]
theorem put_parts (Z : Nat → Nat) (l : List Bk.Bk) (n i : Nat) (hn : n < l.length) : Bk.put Z l n i = if Z i < Z (bkAt l n).rep then setr (addm l n i) n i else addm l n i := by
  by_cases h : Z i < Z (bkAt l n).rep
  · rw [if_pos h]
    have e : Bk.one Z (l[n]?.getD Bk.none0) i = ⟨(bkAt l n).key, (bkAt l n).mem ++ [i], i⟩ := by
      show Bk.Bk.mk (bkAt l n).key ((bkAt l n).mem ++ [i]) (if Z i < Z (bkAt l n).rep then i else (bkAt l n).rep) = _
      rw [if_pos h]
    unfold Bk.put
    rw [e]
    unfold setr addm
    rw [bkAt_set_eq _ hn, List.set_set]
  · rw [if_neg h]
    have e : Bk.one Z (l[n]?.getD Bk.none0) i = ⟨(bkAt l n).key, (bkAt l n).mem ++ [i], (bkAt l n).rep⟩ := by
      show Bk.Bk.mk (bkAt l n).key ((bkAt l n).mem ++ [i]) (if Z i < Z (bkAt l n).rep then i else (bkAt l n).rep) = _
      rw [if_neg h]
    unfold Bk.put
    rw [e]
    rfl
/-- the cells. -/
def bkc (l : List Bk.Bk) (S M : Nat → Value) (o : Nat) : Value :=
  if o % 4 = 0 then .int .i64 ((bkAt l (o / 4)).key.1 : Nat) else if o % 4 = 1 then S (o / 4) else if o % 4 = 2 then M (o / 4) else .int .i64 ((bkAt l (o / 4)).rep : Nat)
def bkCs (l : List Bk.Bk) (S M : Nat → Value) : List Value := (List.range (l.length * 4)).map (bkc l S M)
theorem bkCs_get {l : List Bk.Bk} {S M : Nat → Value} {o : Nat} (h : o < l.length * 4) : (bkCs l S M)[o]? = some (bkc l S M o) := by
  unfold bkCs
  rw [List.getElem?_map, List.getElem?_range h]
  rfl
theorem bkCs_len (l : List Bk.Bk) (S M : Nat → Value) : (bkCs l S M).length = l.length * 4 := by simp [bkCs]
def updF (S : Nat → Value) (n : Nat) (u : Value) (i : Nat) : Value := if i = n then u else S i
theorem updF_eq (S : Nat → Value) (n : Nat) (u : Value) : updF S n u n = u := if_pos rfl
theorem updF_ne (S : Nat → Value) {n i : Nat} (u : Value) (h : i ≠ n) : updF S n u i = S i := if_neg h

structure BkM (tB tS : TypeId) (base : Nat) (l : List Bk.Bk) (S M : Nat → Value) (v : Value) (w : World) : Prop where
  row : w.ownsRow base tB 4 v l.length (bkCs l S M)
  sts : ∀ i, i < l.length → w.ownsRow base tS 2 (S i) (bkAt l i).key.2.length (prs (bkAt l i).key.2)
  mem : ∀ i, i < l.length → w.ownsRow base 3 1 (M i) (bkAt l i).mem.length (ints (bkAt l i).mem)
  apart : ∀ i j, i < l.length → j < l.length → i ≠ j → (M i).ownBlock = none ∨ (M i).ownBlock ≠ (M j).ownBlock

section
variable {tB tS : TypeId} {base : Nat} {l : List Bk.Bk} {S M : Nat → Value} {v : Value} {w w' : World}

theorem BkM.kept {row : Option Nat} (h : BkM tB tS base l S M v w) (hg : w.grownBy w' row) (hv : v.ownBlock = none ∨ v.ownBlock ≠ row) (hS : ∀ i, i < l.length → (S i).ownBlock = none ∨ (S i).ownBlock ≠ row) (hM : ∀ i, i < l.length → (M i).ownBlock = none ∨ (M i).ownBlock ≠ row) : BkM tB tS base l S M v w' :=
  ⟨World.ownsRow.kept h.row hg hv, fun i hi => World.ownsRow.kept (h.sts i hi) hg (hS i hi), fun i hi => World.ownsRow.kept (h.mem i hi) hg (hM i hi), h.apart⟩
theorem own_none_or (v : Value) : v.ownBlock = none ∨ v.ownBlock ≠ none := by cases v.ownBlock <;> simp
theorem BkM.below (h : BkM tB tS base l S M v w) (hb : Below w.heap.size w w') : BkM tB tS base l S M v w' :=
  h.kept (row := none) ⟨hb.os, hb.tape, hb.output, hb.size, fun k hk _ => hb.block k hk⟩ (own_none_or _) (fun _ _ => own_none_or _) (fun _ _ => own_none_or _)
theorem BkM.alloc (h : BkM tB tS base l S M v w) (o : Obj) : BkM tB tS base l S M v (w.alloc o) := h.below ((Below.refl _ _).alloc (Nat.le_refl _) _)
theorem BkM.drew (h : BkM tB tS base l S M v w) : BkM tB tS base l S M v w.drew := ⟨h.row, h.sts, h.mem, h.apart⟩
theorem BkM.drewN (h : BkM tB tS base l S M v w) (n : Nat) : BkM tB tS base l S M v (w.drewN n) := ⟨h.row, h.sts, h.mem, h.apart⟩
theorem BkM.start (tB tS : TypeId) (base : Nat) (S M : Nat → Value) (w : World) : BkM tB tS base [] S M (.slice none 0 0) w :=
  ⟨World.ownsRow_nil _ _ _ _, fun i hi => absurd hi (by simp), fun i hi => absurd hi (by simp), fun i j hi => absurd hi (by simp)⟩
theorem BkM.form (h : BkM tB tS base l S M v w) (hn : 0 < l.length) : ∃ g cap, v = .slice (some ⟨g, 0, none⟩) l.length cap ∧ base ≤ g ∧ g < w.heap.size ∧ l.length ≤ cap := by
  obtain ⟨_, ⟨_, h0⟩ | ⟨g, cap, cur, rfl, hb, hg, hc, _⟩⟩ := h.row
  · omega
  · exact ⟨g, cap, rfl, hb, (Array.getElem?_eq_some_iff.1 hg).1, hc⟩
theorem BkM.shape (h : BkM tB tS base l S M v w) : ∃ a cap, v = .slice a l.length cap ∧ l.length ≤ cap := by
  obtain ⟨_, ⟨rfl, h0⟩ | ⟨g, cap, cur, rfl, hb, hg, hc, _⟩⟩ := h.row
  · exact ⟨none, 0, by rw [h0], by omega⟩
  · exact ⟨_, cap, rfl, hc⟩
variable {g cap n : Nat}
theorem BkM.cell (h : BkM tB tS base l S M (.slice (some ⟨g, 0, none⟩) n cap) w) (hn : n = l.length) {o : Nat} (ho : o < l.length * 4) : w.cell? ⟨g, o, none⟩ = some (bkc l S M o) := by
  subst hn
  rw [h.row.cellAt o ho, bkCs_get ho]
theorem BkM.c0 (h : BkM tB tS base l S M (.slice (some ⟨g, 0, none⟩) n cap) w) (hn : n = l.length) {i : Nat} (hi : i < l.length) : w.cell? ⟨g, i * 4, none⟩ = some (.int .i64 ((bkAt l i).key.1 : Nat)) := by
  rw [h.cell hn (by omega)]; unfold bkc; rw [if_pos (by omega), show i * 4 / 4 = i from by omega]
theorem BkM.c1 (h : BkM tB tS base l S M (.slice (some ⟨g, 0, none⟩) n cap) w) (hn : n = l.length) {i : Nat} (hi : i < l.length) : w.cell? ⟨g, i * 4 + 1, none⟩ = some (S i) := by
  rw [h.cell hn (by omega)]; unfold bkc; rw [if_neg (by omega), if_pos (by omega), show (i * 4 + 1) / 4 = i from by omega]
theorem BkM.c2 (h : BkM tB tS base l S M (.slice (some ⟨g, 0, none⟩) n cap) w) (hn : n = l.length) {i : Nat} (hi : i < l.length) : w.cell? ⟨g, i * 4 + 2, none⟩ = some (M i) := by
  rw [h.cell hn (by omega)]; unfold bkc; rw [if_neg (by omega), if_neg (by omega), if_pos (by omega), show (i * 4 + 2) / 4 = i from by omega]
theorem BkM.c3 (h : BkM tB tS base l S M (.slice (some ⟨g, 0, none⟩) n cap) w) (hn : n = l.length) {i : Nat} (hi : i < l.length) : w.cell? ⟨g, i * 4 + 3, none⟩ = some (.int .i64 ((bkAt l i).rep : Nat)) := by
  rw [h.cell hn (by omega)]; unfold bkc; rw [if_neg (by omega), if_neg (by omega), if_neg (by omega), show (i * 4 + 3) / 4 = i from by omega]
theorem BkM.frz (h : BkM tB tS base l S M (.slice (some ⟨g, 0, none⟩) n cap) w) (hn : n = l.length) (o : Nat) : w.frozen? ⟨g, o, none⟩ = false := by
  subst hn
  exact h.row.frozenAt o

/-- a new bucket behind the others. -/
theorem BkM.app (h : BkM tB tS base l S M v w) (h1 : tB ≠ tS) (h2 : tB ≠ 3) {k : Bk.Ky} {i : Nat} {u v' : Value} (hu : w.ownsRow base tS 2 u k.2.length (prs k.2))
    (hown : w'.ownsRow base tB 4 v' (l.length + 1) (bkCs l S M ++ [.int .i64 (k.1 : Nat), u, .slice none 0 0, .int .i64 (i : Nat)])) (hg : w.grownBy w' v.ownBlock) :
    BkM tB tS base (l ++ [⟨k, [], i⟩]) (updF S l.length u) (updF M l.length (.slice none 0 0)) v' w' := by
  have hl : (l ++ [(⟨k, [], i⟩ : Bk.Bk)]).length = l.length + 1 := by simp
  refine ⟨?_, ?_, ?_, ?_⟩
  · rw [hl]
    have e : bkCs (l ++ [⟨k, [], i⟩]) (updF S l.length u) (updF M l.length (.slice none 0 0)) = bkCs l S M ++ [.int .i64 (k.1 : Nat), u, .slice none 0 0, .int .i64 (i : Nat)] := by
      apply List.ext_getElem?
      intro o
      by_cases ho : o < (l.length + 1) * 4
      · rw [bkCs_get (by rw [hl]; exact ho)]
        by_cases ho2 : o < l.length * 4
        · rw [List.getElem?_append_left (by rw [bkCs_len]; exact ho2), bkCs_get ho2]
          unfold bkc
          rw [bkAt_app_lt (by omega), updF_ne _ _ (by omega), updF_ne _ _ (by omega)]
        · rw [List.getElem?_append_right (by rw [bkCs_len]; omega), bkCs_len]
          unfold bkc
          rw [show o / 4 = l.length from by omega, bkAt_app_eq, updF_eq, updF_eq]
          obtain rfl | rfl | rfl | rfl : o = l.length * 4 ∨ o = l.length * 4 + 1 ∨ o = l.length * 4 + 2 ∨ o = l.length * 4 + 3 := by omega
          · rw [if_pos (by omega), show l.length * 4 - l.length * 4 = 0 from by omega]; rfl
          · rw [if_neg (by omega), if_pos (by omega), show l.length * 4 + 1 - l.length * 4 = 1 from by omega]; rfl
          · rw [if_neg (by omega), if_neg (by omega), if_pos (by omega), show l.length * 4 + 2 - l.length * 4 = 2 from by omega]; rfl
          · rw [if_neg (by omega), if_neg (by omega), if_neg (by omega), show l.length * 4 + 3 - l.length * 4 = 3 from by omega]; rfl
      · rw [List.getElem?_eq_none (by rw [bkCs_len, hl]; omega), List.getElem?_eq_none (by rw [List.length_append, bkCs_len]; simp; omega)]
    rw [e]
    exact hown
  · intro j hj
    rw [hl] at hj
    by_cases hjn : j = l.length
    · subst hjn
      rw [bkAt_app_eq, updF_eq]
      exact World.ownsRow.kept hu hg (owns_kind hu h.row (Ne.symm h1))
    · rw [bkAt_app_lt (by omega), updF_ne _ _ hjn]
      exact World.ownsRow.kept (h.sts j (by omega)) hg (owns_kind (h.sts j (by omega)) h.row (Ne.symm h1))
  · intro j hj
    rw [hl] at hj
    by_cases hjn : j = l.length
    · subst hjn
      rw [bkAt_app_eq, updF_eq]
      exact World.ownsRow_nil _ _ _ _
    · rw [bkAt_app_lt (by omega), updF_ne _ _ hjn]
      exact World.ownsRow.kept (h.mem j (by omega)) hg (owns_kind (h.mem j (by omega)) h.row (Ne.symm h2))
  · intro a b ha hb hab
    rw [hl] at ha hb
    by_cases han : a = l.length
    · subst han; left; rw [updF_eq]; rfl
    · by_cases hbn : b = l.length
      · subst hbn; rw [updF_eq, updF_ne _ _ han]; exact own_none_or _
      · rw [updF_ne _ _ han, updF_ne _ _ hbn]; exact h.apart a b (by omega) (by omega) hab

/-- a member more: its row has been grown, and is laid into the bucket. -/
theorem BkM.more (h : BkM tB tS base l S M (.slice (some ⟨g, 0, none⟩) n cap) w) (hn : n = l.length) (h2 : tB ≠ 3) (h3 : tS ≠ 3) (h1 : tB ≠ tS) {i j : Nat} (hi : i < l.length) {u : Value} (hown : w'.ownsRow base 3 1 u ((bkAt l i).mem.length + 1) (ints (bkAt l i).mem ++ [.int .i64 (j : Nat)])) (hg : w.grownBy w' (M i).ownBlock)
    (hloc : u.ownBlock = (M i).ownBlock ∨ u.ownBlock = some w.heap.size) :
    BkM tB tS base (addm l i j) S (updF M i u) (.slice (some ⟨g, 0, none⟩) n cap) (w'.setCell ⟨g, i * 4 + 2, none⟩ u) := by
  subst hn
  have hrow : w'.ownsRow base tB 4 (.slice (some ⟨g, 0, none⟩) l.length cap) l.length (bkCs l S M) := World.ownsRow.kept h.row hg (owns_kind h.row (h.mem i hi) h2)
  obtain ⟨hst, hgs⟩ := hrow.stored (i * 4 + 2) u
  have hug : u.ownBlock = none ∨ u.ownBlock ≠ some g := owns_kind (v' := .slice (some ⟨g, 0, none⟩) l.length cap) hown hrow (Ne.symm h2)
  refine ⟨?_, ?_, ?_, ?_⟩
  · rw [addm_len]
    have e : bkCs (addm l i j) S (updF M i u) = (bkCs l S M).set (i * 4 + 2) u := by
      apply List.ext_getElem?
      intro o
      by_cases ho : o < l.length * 4
      · rw [bkCs_get (by rw [addm_len]; exact ho)]
        by_cases hoi : o = i * 4 + 2
        · subst hoi
          rw [List.getElem?_set_self (by rw [bkCs_len]; omega)]
          unfold bkc
          rw [if_neg (by omega), if_neg (by omega), if_pos (by omega), show (i * 4 + 2) / 4 = i from by omega, updF_eq]
        · rw [List.getElem?_set_ne (Ne.symm hoi), bkCs_get ho]
          unfold bkc
          have ek : (bkAt (addm l i j) (o / 4)).key = (bkAt l (o / 4)).key ∧ (bkAt (addm l i j) (o / 4)).rep = (bkAt l (o / 4)).rep := by
            unfold addm
            by_cases hq : i = o / 4
            · rw [← hq, bkAt_set_eq _ hi]; exact ⟨rfl, rfl⟩
            · rw [bkAt_set_ne _ hq]; exact ⟨rfl, rfl⟩
          rw [ek.1, ek.2]
          by_cases ho2 : o % 4 = 2
          · rw [updF_ne _ _ (by omega)]
          · rw [if_neg ho2, if_neg ho2]
      · rw [List.getElem?_eq_none (by rw [bkCs_len, addm_len]; omega), List.getElem?_eq_none (by rw [List.length_set, bkCs_len]; omega)]
    rw [e]
    exact hst
  · intro a ha
    rw [addm_len] at ha
    have ek : (bkAt (addm l i j) a).key = (bkAt l a).key := by
      unfold addm
      by_cases hq : i = a
      · subst hq; rw [bkAt_set_eq _ hi]
      · rw [bkAt_set_ne _ hq]
    rw [ek]
    have hs1 := World.ownsRow.kept (h.sts a ha) hg (owns_kind (h.sts a ha) (h.mem i hi) h3)
    exact World.ownsRow.kept hs1 hgs (owns_kind (v' := .slice (some ⟨g, 0, none⟩) l.length cap) hs1 hrow (Ne.symm h1))
  · intro a ha
    rw [addm_len] at ha
    by_cases hai : a = i
    · subst hai
      rw [updF_eq]
      unfold addm
      rw [bkAt_set_eq _ hi]
      have := World.ownsRow.kept hown hgs hug
      have ei : ints ((bkAt l a).mem ++ [j]) = ints (bkAt l a).mem ++ [.int .i64 (j : Nat)] := by simp [ints]
      show (w'.setCell _ u).ownsRow base 3 1 u ((bkAt l a).mem ++ [j]).length (ints ((bkAt l a).mem ++ [j]))
      rw [ei, List.length_append]
      exact this
    · rw [updF_ne _ _ hai]
      have em : (bkAt (addm l i j) a).mem = (bkAt l a).mem := by unfold addm; rw [bkAt_set_ne _ (Ne.symm hai)]
      rw [em]
      have hs1 := World.ownsRow.kept (h.mem a ha) hg (h.apart a i ha hi hai)
      exact World.ownsRow.kept hs1 hgs (owns_kind (v' := .slice (some ⟨g, 0, none⟩) l.length cap) hs1 hrow (Ne.symm h2))
  · have hnew : ∀ a, a < l.length → a ≠ i → (M a).ownBlock = none ∨ (M a).ownBlock ≠ u.ownBlock := by
      intro a ha hai
      rcases hloc with e | e
      · rw [e]; exact h.apart a i ha hi hai
      · rw [e]
        rcases hx : (M a).ownBlock with _ | x
        · exact Or.inl rfl
        · right
          have := ((h.mem a ha).lt x hx).2
          intro e2
          cases e2
          omega
    intro a b ha hb hab
    rw [addm_len] at ha hb
    by_cases hai : a = i
    · subst hai
      rw [updF_eq, updF_ne _ _ (Ne.symm hab)]
      rcases hnew b hb (Ne.symm hab) with e | e
      · rw [e]; exact own_none_or _
      · exact Or.inr (Ne.symm e)
    · by_cases hbi : b = i
      · subst hbi
        rw [updF_eq, updF_ne _ _ hai]
        exact hnew a ha hai
      · rw [updF_ne _ _ hai, updF_ne _ _ hbi]
        exact h.apart a b ha hb hab

/-- another that stands for all. -/
theorem BkM.rep (h : BkM tB tS base l S M (.slice (some ⟨g, 0, none⟩) n cap) w) (hn : n = l.length) (h2 : tB ≠ 3) (h1 : tB ≠ tS) {i : Nat} (j : Nat) (hi : i < l.length) :
    BkM tB tS base (setr l i j) S M (.slice (some ⟨g, 0, none⟩) n cap) (w.setCell ⟨g, i * 4 + 3, none⟩ (.int .i64 (j : Nat))) := by
  subst hn
  have hrow := h.row
  obtain ⟨hst, hgs⟩ := hrow.stored (i * 4 + 3) (.int .i64 (j : Nat))
  refine ⟨?_, ?_, ?_, ?_⟩
  · rw [setr_len]
    have e : bkCs (setr l i j) S M = (bkCs l S M).set (i * 4 + 3) (.int .i64 (j : Nat)) := by
      apply List.ext_getElem?
      intro o
      by_cases ho : o < l.length * 4
      · rw [bkCs_get (by rw [setr_len]; exact ho)]
        by_cases hoi : o = i * 4 + 3
        · subst hoi
          rw [List.getElem?_set_self (by rw [bkCs_len]; omega)]
          unfold bkc setr
          rw [if_neg (by omega), if_neg (by omega), if_neg (by omega), show (i * 4 + 3) / 4 = i from by omega, bkAt_set_eq _ hi]
        · rw [List.getElem?_set_ne (Ne.symm hoi), bkCs_get ho]
          unfold bkc
          have ek : (bkAt (setr l i j) (o / 4)).key = (bkAt l (o / 4)).key := by
            unfold setr
            by_cases hq : i = o / 4
            · rw [← hq, bkAt_set_eq _ hi]
            · rw [bkAt_set_ne _ hq]
          rw [ek]
          by_cases h0 : o % 4 = 0
          · rw [if_pos h0, if_pos h0]
          · rw [if_neg h0, if_neg h0]
            by_cases h1 : o % 4 = 1
            · rw [if_pos h1, if_pos h1]
            · rw [if_neg h1, if_neg h1]
              by_cases h2 : o % 4 = 2
              · rw [if_pos h2, if_pos h2]
              · rw [if_neg h2, if_neg h2]
                unfold setr
                rw [bkAt_set_ne _ (by omega)]
      · rw [List.getElem?_eq_none (by rw [bkCs_len, setr_len]; omega), List.getElem?_eq_none (by rw [List.length_set, bkCs_len]; omega)]
    rw [e]
    exact hst
  · intro a ha
    rw [setr_len] at ha
    have ek : (bkAt (setr l i j) a).key = (bkAt l a).key := by
      unfold setr
      by_cases hq : i = a
      · subst hq; rw [bkAt_set_eq _ hi]
      · rw [bkAt_set_ne _ hq]
    rw [ek]
    exact World.ownsRow.kept (h.sts a ha) hgs (owns_kind (v' := .slice (some ⟨g, 0, none⟩) l.length cap) (h.sts a ha) hrow (Ne.symm h1))
  · intro a ha
    rw [setr_len] at ha
    have em : (bkAt (setr l i j) a).mem = (bkAt l a).mem := by
      unfold setr
      by_cases hq : i = a
      · subst hq; rw [bkAt_set_eq _ hi]
      · rw [bkAt_set_ne _ hq]
    rw [em]
    exact World.ownsRow.kept (h.mem a ha) hgs (owns_kind (v' := .slice (some ⟨g, 0, none⟩) l.length cap) (h.mem a ha) hrow (Ne.symm h2))
  · intro a b ha hb hab
    rw [setr_len] at ha hb
    exact h.apart a b ha hb hab
end
end Go.Proofs.YtbmaiioecnmopaaGreatDoor

/-
  BUCKETS, THE PROGRAM's SIDE: the map from keys to numbers of buckets. By the verifier of the loop 'triage'.
-/
namespace Go.Proofs.YtbmaiioecnmopaaGreatDoor
open Go.RowKit

theorem Tryz.laidOutK : laidOutB Tryz.prog = true := by kernel_rfl
theorem Tryz.undKey : Tryz.prog.underlying 78 = some (.array 14 3) := by kernel_rfl
theorem Tryz.keyWide : (match Tryz.prog.underlying 78 with | some (.array _ _) | some (.struct _) => true | _ => false) = true := by kernel_rfl
theorem Tryz.keyRow : 78 < Tryz.prog.types.size := of_decide_eq_true (by kernel_rfl)
set_option maxRecDepth 100000 in
theorem Tryz.keyLaw : Maps.Keyed Tryz.prog 78 := Maps.Keyed.of_law (deep_law_laid Tryz.laidOutK (m := 2) (by omega) Tryz.keyRow (by kernel_rfl) Tryz.keyWide)
theorem Tryz.keyCells : Tryz.prog.cellsOf 78 = 14 := by kernel_rfl
theorem Tryz.intCells1 : Tryz.prog.cellsOf 3 = 1 := by kernel_rfl
theorem Tryz.keyTyp : Tryz.prog.keyType 78 = true := by kernel_rfl

def KOk (k : Bk.Ky) : Prop := k.2.length ≤ 6 ∧ ∀ i, i < 14 → kn k i ≤ 9223372036854775807
theorem mapM_some {α β : Type} (f : α → Option β) (g : α → β) : ∀ l : List α, (∀ x ∈ l, f x = some (g x)) → l.mapM f = some (l.map g) := by
  intro l
  induction l with
  | nil => intro _; rfl
  | cons a l ih =>
    intro h
    rw [List.mapM_cons, h a (by simp), ih fun x hx => h x (by simp [hx])]
    rfl
theorem lit_wf {n : Nat} (h : n ≤ 9223372036854775807) : (Lit.int .i64 (n : Nat)).wf = true := by
  exact WalkArith.wf_i64 (by omega)
theorem key_lits {k : Bk.Ky} (hk : KOk k) : ∃ kl, keyOf Tryz.prog 78 (kval k) = some kl := by
  have hf : (kval k).formed Tryz.prog 78 = true := by
    unfold kval Value.formed
    rw [Tryz.undKey, Tryz.keyCells]
    rfl
  obtain ⟨d, hd⟩ : ∃ d, Tryz.prog.types.size + 1 = d + 2 := ⟨Tryz.prog.types.size - 1, by have := Tryz.keyRow; omega⟩
  have hl : Tryz.prog.keyLits (Tryz.prog.types.size + 1) 78 (kval k).cells.toList = some (((List.range 14).map fun i => [Lit.int .i64 (kn k i : Nat)]).flatten) := by
    rw [hd]
    unfold Program.keyLits
    rw [Tryz.undKey]
    have hlen : (kval k).cells.toList.length = Tryz.prog.cellsOf 78 := by rw [Tryz.keyCells]; rfl
    dsimp only
    rw [if_pos hlen, Tryz.intCells1, mapM_some _ (fun i => [Lit.int .i64 (kn k i : Nat)])]
    · rfl
    · intro i hi
      have hi14 : i < 14 := by simpa using hi
      have hc : ((kval k).cells.toList.drop (i * 1)).take 1 = [.int .i64 (kn k i : Nat)] := by
        obtain rfl | rfl | rfl | rfl | rfl | rfl | rfl | rfl | rfl | rfl | rfl | rfl | rfl | rfl : i = 0 ∨ i = 1 ∨ i = 2 ∨ i = 3 ∨ i = 4 ∨ i = 5 ∨ i = 6 ∨ i = 7 ∨ i = 8 ∨ i = 9 ∨ i = 10 ∨ i = 11 ∨ i = 12 ∨ i = 13 := by omega
        all_goals rfl
      rw [hc]
      unfold Program.keyLits
      rw [Tryz.underlying3]
      dsimp only
      rw [if_pos ⟨rfl, lit_wf (hk.2 i hi14)⟩]
  unfold keyOf
  rw [Tryz.undKey]
  dsimp only
  rw [Tryz.keyTyp, hf, hl]
  exact ⟨_, rfl⟩
/-- what a key reads as. -/
noncomputable def klit (k : Bk.Ky) : Lit := (keyOf Tryz.prog 78 (kval k)).getD (.bool false)
theorem klit_of {k : Bk.Ky} (hk : KOk k) : keyOf Tryz.prog 78 (kval k) = some (klit k) := by
  obtain ⟨kl, h⟩ := key_lits hk
  unfold klit
  rw [h]
  rfl
theorem kval_inj {k q : Bk.Ky} (h : kval k = kval q) : ∀ i, i < 14 → kn k i = kn q i := by
  unfold kval at h
  injection h with h
  intro i hi
  have e := congrArg (fun (a : Array Value) => a[i]?) h
  obtain rfl | rfl | rfl | rfl | rfl | rfl | rfl | rfl | rfl | rfl | rfl | rfl | rfl | rfl : i = 0 ∨ i = 1 ∨ i = 2 ∨ i = 3 ∨ i = 4 ∨ i = 5 ∨ i = 6 ∨ i = 7 ∨ i = 8 ∨ i = 9 ∨ i = 10 ∨ i = 11 ∨ i = 12 ∨ i = 13 := by omega
  all_goals
    simp only [List.getElem?_toArray, List.getElem?_cons_succ, List.getElem?_cons_zero, Option.some.injEq, Value.int.injEq, true_and] at e
    omega
set_option maxRecDepth 100000 in
theorem klit_inj {k q : Bk.Ky} (hk : KOk k) (hq : KOk q) (h : klit k = klit q) : k = q := by
  have h1 := klit_of hk
  have h2 := klit_of hq
  rw [← h] at h2
  exact kn_inj hk.1 hq.1 (kval_inj (Tryz.keyLaw.inj h1 h2))
set_option maxRecDepth 100000 in
theorem klit_key {k : Bk.Ky} (hk : KOk k) : WideAt.IsKeyLit (klit k) := Tryz.keyLaw.key (klit_of hk)
/-- the map has the number of each key that has a bucket. -/
def MapOk (D : DataW Unit) (l : List Bk.Bk) : Prop := ∀ k, KOk k → Maps.has D (klit k) = decide (Bk.idx l k < l.length) ∧ (Bk.idx l k < l.length → D.atKey (klit k) (.lit (.int .i64 0)) = .lit (.int .i64 (Bk.idx l k : Nat)))
theorem MapOk.start : MapOk (.map []) [] := fun k _ => ⟨rfl, fun h => absurd h (by simp)⟩
theorem MapOk.keys {D : DataW Unit} {l m : List Bk.Bk} (h : MapOk D l) (hl : m.map (·.key) = l.map (·.key)) : MapOk D m := by
  intro k hk
  have e1 : Bk.idx m k = Bk.idx l k := Bk.idx_keys _ _ _ hl
  have e2 : m.length = l.length := by have := congrArg List.length hl; simpa using this
  rw [e1, e2]
  exact h k hk
set_option maxRecDepth 100000 in
theorem MapOk.app {D : DataW Unit} {l : List Bk.Bk} (h : MapOk D l) (hD : Maps.IsMap D) {k : Bk.Ky} (hk : KOk k) (hn : ¬ Bk.idx l k < l.length) (i : Nat) : MapOk (D.put (klit k) (.lit (.int .i64 (l.length : Nat)))) (l ++ [⟨k, [], i⟩]) := by
  intro q hq
  have hle := Bk.idx_le l q
  rw [Bk.idx_app]
  simp only [List.length_append, List.length_singleton]
  by_cases e : k = q
  · subst e
    rw [if_neg hn, if_pos rfl]
    refine ⟨?_, fun _ => Maps.atKey_put_same hD (klit_key hk) _ _⟩
    rw [Maps.has_put_same hD (klit_key hk), decide_eq_true (by omega)]
  · have hne : klit q ≠ klit k := fun e2 => e (klit_inj hk hq e2.symm)
    rw [Maps.has_put_other hne, Maps.atKey_put_other hne, (h q hq).1]
    by_cases hlt : Bk.idx l q < l.length
    · rw [if_pos hlt]
      refine ⟨?_, fun _ => (h q hq).2 hlt⟩
      rw [decide_eq_true hlt, decide_eq_true (by omega)]
    · rw [if_neg hlt, if_neg e]
      refine ⟨?_, fun h2 => absurd h2 (by omega)⟩
      rw [decide_eq_false hlt, decide_eq_false (by omega)]
theorem keys_addm (l : List Bk.Bk) (i j : Nat) (hi : i < l.length) : (addm l i j).map (·.key) = l.map (·.key) := Bk.map_set_same rfl hi
theorem keys_setr (l : List Bk.Bk) (i j : Nat) (hi : i < l.length) : (setr l i j).map (·.key) = l.map (·.key) := Bk.map_set_same rfl hi
end Go.Proofs.YtbmaiioecnmopaaGreatDoor

/-
  BUCKETS: the numbers of a key are small. By the verifier of the loop 'triage'.
-/
namespace Go.Proofs.YtbmaiioecnmopaaGreatDoor
open Go.RowKit

theorem ite_kind {c : Prop} [Decidable c] {a b : Im.St × Nat} (ha : a.2 ≤ 10) (hb : b.2 ≤ 10) : (if c then a else b).2 ≤ 10 := by
  by_cases h : c
  · rw [if_pos h]; exact ha
  · rw [if_neg h]; exact hb
theorem step_kind (s inp : ByteArray) (m : Im.St) : (Im.stepP s inp m).2 ≤ 10 := by
  unfold Im.stepP
  repeat' (first | exact Nat.le_of_ble_eq_true rfl | apply ite_kind)
theorem bt_in {s : ByteArray} {i : Nat} (h : Im.bt s i ≠ 0) : i < s.size := by
  by_cases hi : i < s.size
  · exact hi
  · exfalso
    apply h
    unfold Im.bt
    simp [hi]
theorem run_vals (s inp : ByteArray) (n : Nat) (ho : Im.Okay s n) : ∀ f m k, Im.Good s inp n m → (∀ c ∈ (Im.runP s inp f m k).2.2.1.cal, c.1 < n ∧ c.2 < s.size) ∧ (Im.runP s inp f m k).2.1 ≤ 10 := by
  intro f
  have hcal : ∀ m, Im.Good s inp n m → ∀ c ∈ m.cal, c.1 < n ∧ c.2 < s.size := by
    intro m hg c hc
    obtain ⟨h1, -, h3⟩ := hg.hcv c hc
    exact ⟨h1, bt_in (by rw [h3]; decide)⟩
  induction f with
  | zero => intro m k hg; exact ⟨hcal m hg, Nat.zero_le _⟩
  | succ f ih =>
    intro m k hg
    unfold Im.runP
    by_cases h0 : (Im.stepP s inp m).2 = 0
    · rw [if_pos h0]; exact ih _ _ (Im.good_step s inp n m ho hg h0)
    · have hs := Im.step_stays s inp m h0
      rw [if_neg h0]
      by_cases h10 : (Im.stepP s inp m).2 = 10
      · rw [if_pos h10]; show (∀ c ∈ (Im.stepP s inp m).1.cal, _) ∧ _; rw [hs]; exact ⟨hcal m hg, Nat.zero_le _⟩
      · rw [if_neg h10]; show (∀ c ∈ (Im.stepP s inp m).1.cal, _) ∧ (Im.stepP s inp m).2 ≤ 10; rw [hs]; exact ⟨hcal m hg, step_kind s inp m⟩
theorem ky_ok {s inp : ByteArray} {fuel d : Nat} {k : Bk.Ky} (hc : Im.chk s = (0, 0)) (hd : d ≤ 6) (h : ky s fuel d inp = some k) : KOk k := by
  have ho := Im.okay_of s hc
  obtain ⟨hv, hk⟩ := run_vals s inp _ ho fuel _ 0 (Im.good_start s inp _ ho)
  have hn := ho.n6
  have hz := ho.hs
  obtain ⟨-, rfl⟩ := ky_some h
  have hlen : ((rep s fuel inp).sts.take d).length ≤ 6 := by rw [List.length_take]; omega
  refine ⟨hlen, ?_⟩
  have hsv : ∀ j : Nat, (((rep s fuel inp).sts.take d)[j]?.getD (0, 0)).1 ≤ 200 ∧ (((rep s fuel inp).sts.take d)[j]?.getD (0, 0)).2 ≤ 200 := by
    intro j
    by_cases hj : j < ((rep s fuel inp).sts.take d).length
    · rw [List.getElem?_eq_getElem hj]
      have hm : ((rep s fuel inp).sts.take d)[j] ∈ (rep s fuel inp).sts := List.mem_of_mem_take (List.getElem_mem hj)
      have hmm : ∀ c ∈ (rep s fuel inp).sts, c ∈ (Im.runP s inp fuel (Im.st0 s) 0).2.2.1.cal := by
        intro c hc
        have hc' : c ∈ rsts (Im.runP s inp fuel (Im.st0 s) 0) := hc
        unfold rsts at hc'
        split at hc'
        · exact List.mem_reverse.1 hc'
        · cases hc'
      have hm2 := hmm _ hm
      have := hv _ hm2
      show (((rep s fuel inp).sts.take d)[j]).1 ≤ 200 ∧ (((rep s fuel inp).sts.take d)[j]).2 ≤ 200
      omega
    · rw [List.getElem?_eq_none (by omega)]; exact ⟨Nat.zero_le _, Nat.zero_le _⟩
  intro i _
  have hkd : (rep s fuel inp).kd ≤ 10 := hk
  unfold kn kp
  dsimp only
  have h7 := hsv ((i - 2) / 2)
  repeat' split
  all_goals omega
end Go.Proofs.YtbmaiioecnmopaaGreatDoor
