/-
  Pure, RefA, RefB, RefC, RefD, PureB: THESE TEXTS, JOINED. By the verifier of the loop 'triage'.
-/
import Derived.Test.YtbmaiioecnmopaaGreatDoorProg
import Derived.WalkKit
import Derived.WalkSpells
import Derived.WalkLawsBesides
import Derived.Deep.QuietTactic
import Derived.BigQuiet
import Derived.WalkSmall
/-
  THE PLAIN MATHEMATICS of images: nothing of the dump. By the verifier of the loop 'triage'.
-/
namespace Go.Proofs.YtbmaiioecnmopaaGreatDoor
namespace Im

/-- byte k of a text, or 0. -/
def bt (s : ByteArray) (k : Nat) : Nat := if h : k < s.size then (s[k]'h).toNat else 0
theorem bt_lt (s : ByteArray) (k : Nat) : bt s k < 256 := by
  unfold bt; split
  · exact UInt8.toNat_lt _
  · omega
theorem bt_eq (s : ByteArray) (k : Nat) (h : k < s.size) : (s[k]'h).toNat = bt s k := by
  unfold bt; rw [dif_pos h]

/-- the size of an instruction by its op; 0: none. -/
def sz (op : Nat) : Nat := if 17 < op then 0 else if op = 1 ∨ op = 10 ∨ op = 11 ∨ op = 12 then 2 else 1
theorem sz_le (op : Nat) : sz op ≤ 2 := by unfold sz; split <;> (try split) <;> omega

/-- the first place of function f (from 0 on); of the count itself: the end. -/
def st (s : ByteArray) : Nat → Nat
  | 0 => 1 + bt s 0
  | f + 1 => st s f + bt s (f + 1)

/-- is the byte at a place no instruction (of a function that ends at 'to')? -/
def badAt (s : ByteArray) (to at_ : Nat) : Prop := sz (bt s at_) = 0 ∨ to < at_ + sz (bt s at_)
/-- the instructions' places from a place on; the first that is none. -/
def sts (s : ByteArray) (to : Nat) : Nat → Nat → List Nat × Option Nat
  | 0, _ => ([], none)
  | n + 1, p => if p < to then (if sz (bt s p) = 0 ∨ to < p + sz (bt s p) then ([], some p) else (p :: (sts s to n (p + sz (bt s p))).1, (sts s to n (p + sz (bt s p))).2)) else ([], none)
theorem sts_more (s : ByteArray) (to : Nat) : ∀ n m p, to - p ≤ n → to - p ≤ m → sts s to n p = sts s to m p := by
  intro n
  induction n with
  | zero =>
    intro m p h1 h2
    cases m with
    | zero => rfl
    | succ m => simp only [sts]; rw [if_neg (by omega)]
  | succ n ih =>
    intro m p h1 h2
    cases m with
    | zero => simp only [sts]; rw [if_neg (by omega)]
    | succ m =>
      simp only [sts]
      by_cases hp : p < to
      · rw [if_pos hp, if_pos hp]
        by_cases hb : sz (bt s p) = 0 ∨ to < p + sz (bt s p)
        · rw [if_pos hb, if_pos hb]
        · rw [if_neg hb, if_neg hb, ih m _ (by omega) (by omega)]
      · rw [if_neg hp, if_neg hp]
/-- the instructions of a function. -/
def run (s : ByteArray) (to p : Nat) : List Nat × Option Nat := sts s to (to - p) p
theorem run_end (s : ByteArray) (to p : Nat) (h : ¬ p < to) : run s to p = ([], none) := by
  unfold run; rw [show to - p = 0 by omega]; rfl
theorem run_bad (s : ByteArray) (to p : Nat) (h : p < to) (hb : sz (bt s p) = 0 ∨ to < p + sz (bt s p)) : run s to p = ([], some p) := by
  unfold run; obtain ⟨n, hn⟩ : ∃ n, to - p = n + 1 := ⟨to - p - 1, by omega⟩
  rw [hn]; simp only [sts]; rw [if_pos h, if_pos hb]
theorem run_step (s : ByteArray) (to p : Nat) (h : p < to) (hb : ¬ (sz (bt s p) = 0 ∨ to < p + sz (bt s p))) :
    run s to p = (p :: (run s to (p + sz (bt s p))).1, (run s to (p + sz (bt s p))).2) := by
  unfold run; obtain ⟨n, hn⟩ : ∃ n, to - p = n + 1 := ⟨to - p - 1, by omega⟩
  rw [hn]; simp only [sts]; rw [if_pos h, if_neg hb, sts_more s to n (to - (p + sz (bt s p))) _ (by omega) (by omega)]

/-- may byte i tell a function's length? -/
def okLen (s : ByteArray) (i : Nat) : Bool := decide (i < s.size) && decide (1 ≤ bt s i) && decide (bt s i ≤ 60)
/-- of n bytes from i on: the first that tells no length. -/
def hscan (s : ByteArray) : Nat → Nat → Option Nat
  | 0, _ => none
  | n + 1, i => if okLen s i = true then hscan s n (i + 1) else some i
/-- the place of ErrHead. -/
def hd (s : ByteArray) : Option Nat :=
  if s.size = 0 ∨ bt s 0 < 1 ∨ 6 < bt s 0 then some 0 else
  match hscan s (bt s 0) 1 with
  | some i => some i
  | none => if s.size < st s (bt s 0) then some s.size else if st s (bt s 0) < s.size then some (st s (bt s 0)) else none
theorem hd_zero (s : ByteArray) (h : s.size = 0 ∨ bt s 0 < 1 ∨ 6 < bt s 0) : hd s = some 0 := by unfold hd; rw [if_pos h]
theorem hd_len (s : ByteArray) (h : ¬ (s.size = 0 ∨ bt s 0 < 1 ∨ 6 < bt s 0)) (i : Nat) (hi : hscan s (bt s 0) 1 = some i) : hd s = some i := by
  unfold hd; rw [if_neg h, hi]
theorem hd_end (s : ByteArray) (h : ¬ (s.size = 0 ∨ bt s 0 < 1 ∨ 6 < bt s 0)) (hi : hscan s (bt s 0) 1 = none) :
    hd s = if s.size < st s (bt s 0) then some s.size else if st s (bt s 0) < s.size then some (st s (bt s 0)) else none := by
  unfold hd; rw [if_neg h, hi]
theorem hscan_bad (s : ByteArray) (n i : Nat) (h0 : i ≤ n) (h : okLen s i = false) : hscan s (n + 1 - i) i = some i := by
  rw [show n + 1 - i = (n - i) + 1 by omega]; simp only [hscan]; rw [h]; rfl
theorem hscan_good (s : ByteArray) (n i : Nat) (h0 : i ≤ n) (h : okLen s i = true) : hscan s (n + 1 - i) i = hscan s (n + 1 - (i + 1)) (i + 1) := by
  rw [show n + 1 - i = (n + 1 - (i + 1)) + 1 by omega]; simp only [hscan]; rw [if_pos h]
theorem hscan_done (s : ByteArray) (n i : Nat) (h0 : n < i) : hscan s (n + 1 - i) i = none := by
  rw [show n + 1 - i = 0 by omega]; rfl
theorem okLen_not (s : ByteArray) (i : Nat) (h : ¬ (i < s.size ∧ 1 ≤ bt s i ∧ bt s i ≤ 60)) : okLen s i = false := by
  unfold okLen; rw [Bool.eq_false_iff]; intro hh; simp at hh; exact h ⟨hh.1.1, hh.1.2, hh.2⟩
theorem okLen_yes (s : ByteArray) (i : Nat) (h1 : i < s.size) (h2 : 1 ≤ bt s i) (h3 : bt s i ≤ 60) : okLen s i = true := by
  unfold okLen; simp [h1, h2, h3]
theorem st_pred (s : ByteArray) (j : Nat) (h : 1 ≤ j) : st s j = st s (j - 1) + bt s j := by
  obtain ⟨k, rfl⟩ : ∃ k, j = k + 1 := ⟨j - 1, by omega⟩
  rfl

/-- does the instruction at a place go nowhere? (p: its function's first place, L: the places of its instructions, fn: how many functions) -/
def badJ (s : ByteArray) (p fn : Nat) (L : List Nat) (c : Nat) : Bool :=
  (decide (bt s c = 12) && decide (fn ≤ bt s (c + 1))) || ((decide (bt s c = 10) || decide (bt s c = 11)) && !decide (p + bt s (c + 1) ∈ L))
/-- the first one that does. -/
def jmp (s : ByteArray) (p fn : Nat) (L : List Nat) (l : List Nat) : Option Nat := l.find? (badJ s p fn L)
theorem run_mem (s : ByteArray) (to : Nat) : ∀ n p, to - p ≤ n → ∀ c, c ∈ (run s to p).1 → p ≤ c ∧ c < to ∧ c + sz (bt s c) ≤ to ∧ 1 ≤ sz (bt s c) := by
  intro n
  induction n with
  | zero => intro p h c hc; rw [run_end s to p (by omega)] at hc; simp at hc
  | succ n ih =>
    intro p h c hc
    by_cases hp : p < to
    · by_cases hb : sz (bt s p) = 0 ∨ to < p + sz (bt s p)
      · rw [run_bad s to p hp hb] at hc; simp at hc
      · rw [run_step s to p hp hb] at hc
        rcases List.mem_cons.1 hc with rfl | hc
        · omega
        · have := ih _ (by omega) c hc; omega
    · rw [run_end s to p hp] at hc; simp at hc
theorem sz_two_iff (op : Nat) (h : op = 1 ∨ op = 10 ∨ op = 11 ∨ op = 12) : sz op = 2 := by
  unfold sz; rw [if_neg (by omega), if_pos (by omega)]
theorem drop_get (L : List Nat) (k : Nat) (h : k < L.length) : L.drop k = L[k]?.getD 0 :: L.drop (k + 1) := by
  rw [List.drop_eq_getElem_cons h, List.getElem?_eq_getElem h]; rfl
theorem jmp_hit (s : ByteArray) (p fn : Nat) (L : List Nat) (k : Nat) (h : k < L.length) (hb : badJ s p fn L (L[k]?.getD 0) = true) : jmp s p fn L (L.drop k) = some (L[k]?.getD 0) := by
  unfold jmp; rw [drop_get L k h]; simp [hb]
theorem jmp_miss (s : ByteArray) (p fn : Nat) (L : List Nat) (k : Nat) (h : k < L.length) (hb : badJ s p fn L (L[k]?.getD 0) = false) : jmp s p fn L (L.drop k) = jmp s p fn L (L.drop (k + 1)) := by
  unfold jmp; rw [drop_get L k h]; simp [hb]

end Im
end Go.Proofs.YtbmaiioecnmopaaGreatDoor

/-
  THE DOCUMENT's SIDE (package triageref): size, has. By the verifier of the loop 'triage'.
-/
namespace Go.Proofs.YtbmaiioecnmopaaGreatDoor
open Go.RowKit

theorem ret_int {k : IntKind} {a b : Int} (h : a = b) : Ending.returned (.int k a) = .returned (.int k b) := by rw [h]
theorem ret_bool {a b : Bool} (h : a = b) : Ending.returned (.bool a) = .returned (.bool b) := by rw [h]

theorem sz_none (c : Int) (h : 17 < c) : (0 : Int) = ((Im.sz c.toNat : Nat) : Int) := by
  unfold Im.sz; rw [if_pos (by omega)]; rfl
theorem sz_two (c : Int) (h1 : c ≤ 17) (h : c = 1 ∨ c = 10 ∨ c = 11 ∨ c = 12) : (2 : Int) = ((Im.sz c.toNat : Nat) : Int) := by
  unfold Im.sz; rw [if_neg (by omega), if_pos (by omega)]; rfl
theorem sz_one (c : Int) (h0 : 0 ≤ c) (h1 : c ≤ 17) (h : ¬ (c = 1 ∨ c = 10 ∨ c = 11 ∨ c = 12)) : (1 : Int) = ((Im.sz c.toNat : Nat) : Int) := by
  unfold Im.sz; rw [if_neg (by omega), if_neg (by omega)]; rfl

set_option maxHeartbeats 400000 in
theorem size_any (c : Int) (w : World) (h0 : 0 ≤ c) (_h1 : c < 256) :
    Calls Tryz.prog 98 #[.int .u8 c] w fun e w' => e = .returned (.int .i64 (Im.sz c.toNat)) ∧ w = w' := by
  go_enter Tryz.func98, Tryz.ntmps98
  go_wp2
  all_goals
    go_ret
    refine ⟨ret_int ?_, rfl⟩
  · exact sz_none c (by assumption)
  · exact sz_two c (by omega) (by omega)
  · exact sz_two c (by omega) (by omega)
  · exact sz_two c (by omega) (by omega)
  · rename_i h; simp only [beq_iff_eq] at h; exact sz_two c (by assumption) (by omega)
  · rename_i h; simp only [beq_eq_false_iff_ne] at h; exact sz_one c h0 (by assumption) (by omega)

theorem not_take_succ (xs : List Int) (n : Int) (k : Nat) (h : n ∉ xs.take k) (hk : k < xs.length) (hne : xs[k]?.getD 0 ≠ n) : n ∉ xs.take (k + 1) := by
  rw [List.take_succ_eq_append_getElem hk]
  intro hm
  rcases List.mem_append.1 hm with hm | hm
  · exact h hm
  · simp at hm; simp [List.getElem?_eq_getElem hk] at hne; exact hne hm.symm

def hasB (xs : List Int) (n : Int) : Bool := decide (n ∈ xs)
-- 'has': whatever slice of numbers.
set_option maxHeartbeats 400000 in
theorem has_any (b off len cap : Nat) (xs : List Int) (n : Int) (w : World) (hl : xs.length = len) (hm : len ≤ 100000)
    (hc : ∀ k, k < len → w.cell? ⟨b, off + k, none⟩ = some (.int .i64 (xs.getD k 0))) :
    Calls Tryz.prog 62 #[.slice (some ⟨b, off, none⟩) len cap, .int .i64 n] w fun e w' => e = .returned (.bool (hasB xs n)) ∧ w = w' := by
  have HL : Hid (xs.length = len) := hl
  clear hl
  go_enter Tryz.func62, Tryz.ntmps62
  go_wp2
  go_loop [5] (fun i => ∃ k : Nat, k ≤ len ∧ i = .int .i64 k ∧ n ∉ xs.take k) (fun i => len - (intOf i).toNat)
  case atStart => exact ⟨0, Nat.zero_le _, rfl, by simp⟩
  case round =>
    obtain ⟨k, hk, rfl, hn⟩ := hrel
    by_cases hlt : k < len
    · have hck := hc k hlt
      by_cases hx : xs[k]?.getD 0 = n
      · have hx' : (xs[k]?.getD 0 == n) = true := by simpa using hx
        have HX : Hid (xs[k]?.getD 0 = n) := hx
        clear hx
        go_wp2
        go_ret
        refine ⟨ret_bool ?_, rfl⟩
        have h1 := HX.out
        have h2 := HL.out
        symm; unfold hasB; rw [decide_eq_true_iff, ← h1, List.getElem?_eq_getElem (by omega)]
        simp
      · have hx' : (xs[k]?.getD 0 == n) = false := by simpa using hx
        have HX : Hid (¬ xs[k]?.getD 0 = n) := hx
        clear hx
        go_wp2
        go_round
        case rel => exact ⟨k + 1, by omega, by go_num, not_take_succ xs n k hn (by rw [HL.out]; exact hlt) HX.out⟩
        case measure => simp [intOf]; omega
    · go_wp2
      go_ret
      refine ⟨ret_bool ?_, rfl⟩
      rw [List.take_of_length_le (by rw [HL.out]; omega)] at hn
      simp [hasB, hn]
end Go.Proofs.YtbmaiioecnmopaaGreatDoor

/-
  THE DOCUMENT's SIDE (package triageref): Starts. By the verifier of the loop 'triage'.
-/
namespace Go.Proofs.YtbmaiioecnmopaaGreatDoor
open Go.RowKit

theorem Tryz.infoInt : (Tryz.prog.info? 3).map (fun i => (i.zero, i.size, i.bytes)) = some (some (.int .i64 0), 1, 8) := by kernel_rfl
theorem Tryz.undInts : Tryz.prog.underlying 32 = some (.slice 3) := by kernel_rfl

theorem below_app {B : Nat} {a wr w1 : World} {u : Value} {o : Obj} {e : TypeId} {size n : Nat} {xs : List Value} (hown : wr.ownsRow B e size u n xs) (hg : (wr.alloc o).grownBy w1 u.ownBlock) (hb : Below B a wr) (hB : B ≤ wr.heap.size) : Below B a w1 :=
  (hb.alloc hB o).grown hg (by simp; omega) (fun j hj => (hown.lt j hj).1)

abbrev ints (l : List Nat) : List Value := l.map fun (k : Nat) => Value.int .i64 (k : Int)
def place (o : Option Nat) : Int := match o with | none => -1 | some k => k

theorem ret_two {v : Value} {k : IntKind} {a b : Int} (h : a = b) : Ending.returned (.tuple #[v, .int k a]) = .returned (.tuple #[v, .int k b]) := by rw [h]

set_option maxHeartbeats 800000 in
set_option maxRecDepth 100000 in
theorem starts_any (s : ByteArray) (p q : Nat) (w : World) (hs : s.size ≤ 200) (hpq : p ≤ q) (hq : q ≤ s.size) :
    Calls Tryz.prog 85 #[.string s, .agg #[.int .i64 p, .int .i64 q]] w fun e w' =>
      ∃ v, e = .returned (.tuple #[v, .int .i64 (place (Im.run s q p).2)]) ∧ w'.ownsRow (w.heap.size + 1) 3 1 v (Im.run s q p).1.length (ints (Im.run s q p).1) ∧ Below (w.heap.size + 1) (w.alloc (.cells #[.int .i64 p, .int .i64 q] 135)) w' := by
  obtain ⟨i0, hi, hz0, hz1, hz2⟩ := info_parts Tryz.infoInt
  go_enter Tryz.func85, Tryz.ntmps85
  go_wp2
  go_loopw [6, 7] (fun v i wr => ∃ (c : Nat) (L : List Nat), i = .int .i64 c ∧ p ≤ c ∧ c ≤ q ∧ Hid (Im.run s q p = (L ++ (Im.run s q c).1, (Im.run s q c).2)) ∧ L.length ≤ c ∧
      wr.ownsRow (w.heap.size + 1) 3 1 v L.length (ints L) ∧ Below (w.heap.size + 1) (w.alloc (.cells #[.int .i64 p, .int .i64 q] 135)) wr)
    (fun _ i _ => q - (intOf i).toNat)
  case atStart => exact ⟨p, [], rfl, Nat.le_refl _, hpq, rfl, Nat.zero_le _, World.ownsRow_nil _ _ _ _, Below.refl _ _⟩
  case round =>
    obtain ⟨c, L, rfl, hpc, hcq, HR, hLc, hown, hbl⟩ := hrel
    have hto : wr.cell? ⟨w.heap.size, 1, none⟩ = some (.int .i64 q) := (hbl.cell (p := ⟨w.heap.size, 1, none⟩) (by simp)).trans (by simp)
    by_cases hlt : c < q
    · have hcs : c < s.size := by omega
      obtain ⟨z, hz⟩ : ∃ z, Im.sz (s[c]'hcs).toNat = z := ⟨_, rfl⟩
      have HZ : Hid (Im.sz (Im.bt s c) = z) := by rw [← Im.bt_eq s c hcs]; exact hz
      have hz2' : z ≤ 2 := by rw [← hz]; exact Im.sz_le _
      have hub : (s[c]'hcs).toNat < 256 := UInt8.toNat_lt _
      by_cases h0 : z = 0
      · have hz0b : ((z : Int) == 0) = true := by simp [h0]
        have HE : Hid (Im.run s q p = (L, some c)) := by
          show Im.run s q p = (L, some c)
          rw [HR.out, Im.run_bad s q c hlt (Or.inl (by rw [HZ.out]; exact h0))]; simp
        go_wp2_with (go_at_call 98; refine (size_any _ _ (by omega) (by omega)).mono ?_; rintro e w' ⟨rfl, rfl⟩)
        go_ret2
        exact ⟨_, ret_two (by rw [HE.out]; rfl), by rw [HE.out]; exact hown, hbl⟩
      · have hz0b : ((z : Int) == 0) = false := by simp; omega
        by_cases h1 : q < c + z
        · have HE : Hid (Im.run s q p = (L, some c)) := by
            show Im.run s q p = (L, some c)
            rw [HR.out, Im.run_bad s q c hlt (Or.inr (by rw [HZ.out]; exact h1))]; simp
          go_wp2_with (go_at_call 98; refine (size_any _ _ (by omega) (by omega)).mono ?_; rintro e w' ⟨rfl, rfl⟩)
          go_ret2
          exact ⟨_, ret_two (by rw [HE.out]; rfl), by rw [HE.out]; exact hown, hbl⟩
        · have HE : Hid (Im.run s q p = ((L ++ [c]) ++ (Im.run s q (c + z)).1, (Im.run s q (c + z)).2)) := by
            show Im.run s q p = _
            rw [HR.out, Im.run_step s q c hlt (by rw [HZ.out]; omega), HZ.out]; simp
          go_wp2_with (first
            | (at_builtin; (refine wpList_append_own _ rfl _ _ 32 rfl (w.heap.size + 1) 3 i0 (.int .i64 0) 1 8 Tryz.undInts hi hz0 hz1 hz2 rfl (by decide) _ _ _ rfl (hown.alloc _) ⟨wr.heap.size, 0, none⟩ 1 1 [.int .i64 c] rfl rfl ?c1 ?c2 ?c3 ?c4 ?c5 ?_))
            | (go_at_call 98; refine (size_any _ _ (by omega) (by omega)).mono ?_; rintro e w' ⟨rfl, rfl⟩))
          case c1 =>
            intro j u hj
            match j, hj with
            | 0, hj => simp at hj; subst hj; simp [Addr.add]
          case c2 => intro u hu; simp at hu; subst hu; rfl
          case c3 => unfold maxLen; omega
          case c4 => omega
          case c5 => have := hbl.size; simp at this; simp; omega
          · intro v' w1 hown' hgrow _
            have hb1 := below_app hown hgrow hbl (by have := hbl.size; simp at this; omega)
            have ho1 : w1.ownsRow (w.heap.size + 1) 3 1 v' (L ++ [c]).length (ints (L ++ [c])) := by simpa using hown'
            clear hown' hgrow hown hbl hto
            go_wp2
            go_roundw
            case rel => exact ⟨c + z, L ++ [c], by go_num, by omega, by omega, HE, by simp; omega, ho1, hb1⟩
            case measure => simp [intOf]; omega
    · have HE : Hid (Im.run s q p = (L, none)) := by
        show Im.run s q p = _
        rw [HR.out, Im.run_end s q c hlt]; simp
      go_wp2
      go_ret2
      exact ⟨_, ret_two (by rw [HE.out]; rfl), by rw [HE.out]; exact hown, hbl⟩
end Go.Proofs.YtbmaiioecnmopaaGreatDoor

/-
  THE DOCUMENT's SIDE (package triageref): Funcs. By the verifier of the loop 'triage'.
-/
namespace Go.Proofs.YtbmaiioecnmopaaGreatDoor
open Go.RowKit

theorem Tryz.infoFunc : (Tryz.prog.info? 135).map (fun i => (i.zero, i.size, i.bytes)) = some (some (.agg #[.int .i64 0, .int .i64 0]), 2, 16) := by kernel_rfl
theorem Tryz.undFuncs : Tryz.prog.underlying 130 = some (.slice 135) := by kernel_rfl

/-- the cells of the list of the first k functions. -/
def fcells (s : ByteArray) : Nat → List Value
  | 0 => []
  | k + 1 => fcells s k ++ [.int .i64 (Im.st s k : Nat), .int .i64 (Im.st s (k + 1) : Nat)]
theorem fcells_pred (s : ByteArray) (j : Nat) (h : 1 ≤ j) : fcells s (j - 1) ++ [.int .i64 (Im.st s (j - 1) : Nat), .int .i64 (Im.st s j : Nat)] = fcells s j := by
  obtain ⟨k, rfl⟩ : ∃ k, j = k + 1 := ⟨j - 1, by omega⟩
  rfl

theorem int_ne0 {n : Nat} (h : 0 < n) : ((n : Int) == 0) = false := by rw [beq_eq_false_iff_ne]; omega

set_option maxHeartbeats 400000 in
set_option maxRecDepth 100000 in
theorem funcs_zero (s : ByteArray) (w : World) (hs : s.size ≤ 200) (h : s.size = 0 ∨ Im.bt s 0 < 1 ∨ 6 < Im.bt s 0) :
    Calls Tryz.prog 56 #[.string s] w fun e w' => e = .returned (.tuple #[.slice none 0 0, .int .i64 0]) ∧ w = w' := by
  by_cases h0 : s.size = 0
  · have hb : ((s.size : Int) == 0) = true := by simp [h0]
    go_enter Tryz.func56, Tryz.ntmps56
    go_wp2
    go_ret2
    exact ⟨rfl, rfl⟩
  · have hp : 0 < s.size := by omega
    have hb := int_ne0 hp
    have he := Im.bt_eq s 0 hp
    generalize Im.bt s 0 = n at *
    by_cases h1 : n < 1
    · go_enter Tryz.func56, Tryz.ntmps56
      go_wp2
      go_ret2
      exact ⟨rfl, rfl⟩
    · have h2 : 6 < n := by omega
      clear h
      go_enter Tryz.func56, Tryz.ntmps56
      go_wp2
      go_ret2
      exact ⟨rfl, rfl⟩

set_option maxHeartbeats 1600000 in
set_option maxRecDepth 100000 in
theorem funcs_any (s : ByteArray) (w : World) (hs : s.size ≤ 200) (hgood : ¬ (s.size = 0 ∨ Im.bt s 0 < 1 ∨ 6 < Im.bt s 0)) :
    Calls Tryz.prog 56 #[.string s] w fun e w' => ∃ v, e = .returned (.tuple #[v, .int .i64 (place (Im.hd s))]) ∧
      (Im.hd s = none → w'.ownsRow w.heap.size 135 2 v (Im.bt s 0) (fcells s (Im.bt s 0))) ∧ Below w.heap.size w w' := by
  obtain ⟨i0, hi, hz0, hz1, hz2⟩ := info_parts Tryz.infoFunc
  have hp : 0 < s.size := by omega
  have hb := int_ne0 hp
  have HL := Im.hd_len s hgood
  have HE := Im.hd_end s hgood
  have hst0 : Im.st s 0 = 1 + Im.bt s 0 := rfl
  have he := Im.bt_eq s 0 hp
  generalize Im.bt s 0 = n at *
  have hn1 : 1 ≤ n := by omega
  have hn6 : n ≤ 6 := by omega
  have HH : Hid ((∀ i, Im.hscan s n 1 = some i → Im.hd s = some i) ∧ (Im.hscan s n 1 = none → Im.hd s = if s.size < Im.st s n then some s.size else if Im.st s n < s.size then some (Im.st s n) else none)) := ⟨HL, HE⟩
  have HS0 : Hid (1 + n = Im.st s 0) := hst0.symm
  clear HL HE hgood hst0
  go_enter Tryz.func56, Tryz.ntmps56
  go_wp2
  go_loopw [5, 6, 7] (fun at_ v i wr => ∃ (j a : Nat), i = .int .i64 j ∧ at_ = .int .i64 a ∧ 1 ≤ j ∧ j ≤ n + 1 ∧ a ≤ 60 * j ∧ Hid (a = Im.st s (j - 1)) ∧ Hid (Im.hscan s n 1 = Im.hscan s (n + 1 - j) j) ∧
      wr.ownsRow w.heap.size 135 2 v (j - 1) (fcells s (j - 1)) ∧ Below w.heap.size w wr)
    (fun _ _ i _ => n + 1 - (intOf i).toNat)
  case atStart => exact ⟨1, 1 + n, rfl, by go_num, by omega, by omega, by omega, HS0, rfl, World.ownsRow_nil _ _ _ _, Below.refl _ _⟩
  case round =>
    obtain ⟨j, a, rfl, rfl, hj1, hjn, ha, HA, HR, hown, hbl⟩ := hrel
    by_cases hle : j ≤ n
    · by_cases hjs : j < s.size
      · have hej := Im.bt_eq s j hjs
        have hok0 := Im.okLen_not s j
        have hok1 := Im.okLen_yes s j hjs
        have hstj := Im.st_pred s j hj1
        generalize Im.bt s j = m at *
        by_cases hbad : m < 1 ∨ 60 < m
        · have HB : Hid (Im.hd s = some j) := HH.out.1 j (by rw [HR.out]; exact Im.hscan_bad s n j hle (hok0 (by omega)))
          clear hok0 hok1 hstj
          rcases hbad with hbad | hbad
          · go_wp2
            go_ret2
            exact ⟨_, ret_two (by rw [HB.out]; rfl), (fun h => by rw [HB.out] at h; simp at h), hbl⟩
          · have hm1 : ¬ m < 1 := by omega
            go_wp2
            go_ret2
            exact ⟨_, ret_two (by rw [HB.out]; rfl), (fun h => by rw [HB.out] at h; simp at h), hbl⟩
        · have hm1 : 1 ≤ m := by omega
          have hm2 : m ≤ 60 := by omega
          have HR' : Hid (Im.hscan s n 1 = Im.hscan s (n + 1 - (j + 1)) (j + 1)) := by
            show Im.hscan s n 1 = _
            rw [HR.out]; exact Im.hscan_good s n j hle (hok1 hm1 hm2)
          have HA' : Hid (a + m = Im.st s j) := by show a + m = _; rw [hstj, HA.out]
          clear hok0 hok1 hstj hbad
          go_wp2_with (at_builtin; refine wpList_append_own _ rfl _ _ 130 rfl w.heap.size 135 i0 (.agg #[.int .i64 0, .int .i64 0]) 2 16 Tryz.undFuncs hi hz0 hz1 hz2 rfl (by decide) _ _ _ rfl (hown.alloc _) ⟨wr.heap.size, 0, none⟩ 1 1 [.int .i64 a, .int .i64 (a + m : Nat)] rfl rfl ?c1 ?c2 ?c3 ?c4 ?c5 ?_)
          case c1 =>
            intro i u hj
            match i, hj with
            | 0, hj => simp at hj; subst hj; simp [Addr.add]
            | 1, hj => simp at hj; subst hj; simp [Addr.add]
          case c2 => intro u hu; simp at hu; rcases hu with rfl | rfl <;> rfl
          case c3 => unfold maxLen; omega
          case c4 => omega
          case c5 => have := hbl.size; simp; omega
          · intro v' w1 hown' hgrow _
            have hb1 := below_app hown hgrow hbl (by have := hbl.size; omega)
            have ho1 : w1.ownsRow w.heap.size 135 2 v' j (fcells s j) := by
              rw [← fcells_pred s j hj1, ← HA.out, ← HA'.out]
              simpa using hown'
            clear hown' hgrow hown hbl
            go_wp2
            go_roundw
            case rel => exact ⟨j + 1, a + m, by go_num, by go_num, by omega, by omega, by omega, HA', HR', ho1, hb1⟩
            case measure => simp [intOf]; omega
      · have HB : Hid (Im.hd s = some j) := HH.out.1 j (by rw [HR.out]; exact Im.hscan_bad s n j hle (Im.okLen_not s j (by omega)))
        go_wp2
        go_ret2
        exact ⟨_, ret_two (by rw [HB.out]; rfl), (fun h => by rw [HB.out] at h; simp at h), hbl⟩
    · have HB := HH.out.2 (by rw [HR.out]; exact Im.hscan_done s n j (by omega))
      have hj : j - 1 = n := by omega
      have HO : Hid (wr.ownsRow w.heap.size 135 2 u6 n (fcells s n)) := by rw [← hj]; exact hown
      have HA2 : Hid (a = Im.st s n) := by rw [← hj]; exact HA
      rw [← HA2.out] at HB
      have HB2 : Hid (Im.hd s = if s.size < a then some s.size else if a < s.size then some a else none) := HB
      clear HB hj hown
      by_cases h1 : s.size < a
      · go_wp2
        go_ret2
        exact ⟨_, ret_two (by rw [HB2.out, if_pos h1]; rfl), (fun h => by rw [HB2.out, if_pos h1] at h; simp at h), hbl⟩
      · by_cases h2 : a < s.size
        · go_wp2
          go_ret2
          exact ⟨_, ret_two (by rw [HB2.out, if_neg h1, if_pos h2]; rfl), (fun h => by rw [HB2.out, if_neg h1, if_pos h2] at h; simp at h), hbl⟩
        · go_wp2
          go_ret2
          exact ⟨_, ret_two (by rw [HB2.out, if_neg h1, if_neg h2]; rfl), (fun _ => HO.out), hbl⟩
end Go.Proofs.YtbmaiioecnmopaaGreatDoor

/-
  THE DOCUMENT's SIDE (package triageref): jump. By the verifier of the loop 'triage'.
-/
namespace Go.Proofs.YtbmaiioecnmopaaGreatDoor
open Go.RowKit

theorem quiet_same {P : Program} {f : FuncId} {args : Array Value} {w : World} {n : Nat} {v : Value}
    (h : Calls P f args (w.drewN n) fun e w' => e = .returned v ∧ w.drewN n = w') : Calls P f args (w.drewN n) fun e w'' => e = .returned v ∧ ∃ m, w'' = w.drewN m :=
  h.mono fun _ _ ⟨he, hm⟩ => ⟨he, n, hm.symm⟩

def nats (l : List Nat) : List Int := l.map fun (k : Nat) => (k : Int)
theorem mem_nats (L : List Nat) (n : Nat) : hasB (nats L) (n : Int) = decide (n ∈ L) := by
  unfold hasB
  rw [decide_eq_decide]; constructor
  · intro h; obtain ⟨a, ha, he⟩ := List.mem_map.1 h; rw [← Int.ofNat_inj.1 he]; exact ha
  · intro h; exact List.mem_map.2 ⟨n, h, rfl⟩
theorem getD_nats (L : List Nat) (k : Nat) : (nats L).getD k 0 = ((L[k]?.getD 0 : Nat) : Int) := by
  simp [nats, List.getElem?_map]; cases L[k]? <;> simp

set_option maxHeartbeats 1600000 in
set_option maxRecDepth 100000 in
theorem jump_any (s : ByteArray) (p q fn b cap : Nat) (L : List Nat) (w : World) (hs : s.size ≤ 200) (hp : p ≤ 1000) (_hfn : fn ≤ 1000) (hlen : L.length ≤ 1000)
    (hL : ∀ c, c ∈ L → c < s.size ∧ c + Im.sz (Im.bt s c) ≤ s.size)
    (hb : b < w.heap.size) (hc : ∀ k, k < L.length → w.cell? ⟨b, k, none⟩ = some (.int .i64 (L[k]?.getD 0 : Nat))) :
    Calls Tryz.prog 86 #[.string s, .agg #[.int .i64 p, .int .i64 q], .slice (some ⟨b, 0, none⟩) L.length cap, .int .i64 fn] w fun e w' =>
      e = .returned (.int .i64 (place (Im.jmp s p fn L L))) ∧ Below w.heap.size w w' := by
  have hbb : b < w.heap.size + 1 := by omega
  obtain ⟨len, hlenE⟩ : ∃ len, L.length = len := ⟨_, rfl⟩
  rw [hlenE] at hc hlen ⊢
  have HLEN : Hid (L.length = len) := hlenE
  clear hlenE
  have HL : Hid (∀ c, c ∈ L → c < s.size ∧ c + Im.sz (Im.bt s c) ≤ s.size) := hL
  have HC : Hid (∀ k, k < len → w.cell? ⟨b, k, none⟩ = some (.int .i64 (L[k]?.getD 0 : Nat))) := hc
  clear hL hc
  go_enter Tryz.func86, Tryz.ntmps86
  go_wp2
  go_loopw [9] (fun i wr => ∃ (k : Nat), i = .int .i64 k ∧ k ≤ len ∧ Hid (Im.jmp s p fn L L = Im.jmp s p fn L (L.drop k)) ∧ Below (w.heap.size + 1) (w.alloc (.cells #[.int .i64 p, .int .i64 q] 135)) wr)
    (fun i _ => len - (intOf i).toNat)
  case atStart => exact ⟨0, rfl, by omega, rfl, Below.refl _ _⟩
  case round =>
    obtain ⟨k, rfl, hk, HR, hbl⟩ := hrel
    have hfrom : wr.cell? ⟨w.heap.size, 0, none⟩ = some (.int .i64 p) := (hbl.cell (p := ⟨w.heap.size, 0, none⟩) (by simp)).trans (by simp)
    have hend : Below w.heap.size w wr := ((Below.refl w.heap.size w).alloc (Nat.le_refl _) _).trans (hbl.mono (by omega))
    by_cases hlt : k < len
    · have hkl : k < L.length := by rw [HLEN.out]; exact hlt
      have HM := HL.out (L[k]?.getD 0) (by rw [List.getElem?_eq_getElem hkl]; simp)
      have hcell : wr.cell? ⟨b, k, none⟩ = some (.int .i64 (L[k]?.getD 0 : Nat)) := (hend.cell (p := ⟨b, k, none⟩) hb).trans (HC.out k hlt)
      have HHit : Hid (Im.badJ s p fn L (L[k]?.getD 0) = true → Im.jmp s p fn L L = some (L[k]?.getD 0)) := fun h => HR.out.trans (Im.jmp_hit s p fn L k hkl h)
      have HMis : Hid (Im.badJ s p fn L (L[k]?.getD 0) = false → Im.jmp s p fn L L = Im.jmp s p fn L (L.drop (k + 1))) := fun h => HR.out.trans (Im.jmp_miss s p fn L k hkl h)
      clear hkl HR
      generalize L[k]?.getD 0 = c at *
      obtain ⟨hcs, hcz⟩ := HM
      have HCZ : Hid (c + Im.sz (Im.bt s c) ≤ s.size) := hcz
      have hop := Im.bt_eq s c hcs
      obtain ⟨op, HOP⟩ : ∃ op, Hid (Im.bt s c = op) := ⟨_, rfl⟩
      rw [HOP.out] at hop
      clear hcz
      have hop256 : op < 256 := by rw [← HOP.out]; exact Im.bt_lt s c
      by_cases h2 : op = 12 ∨ op = 10 ∨ op = 11
      · have hc1 : c + 1 < s.size := by
          have h := HCZ.out
          rw [HOP.out, Im.sz_two_iff op (by omega)] at h; omega
        have hn := Im.bt_eq s (c + 1) hc1
        obtain ⟨n, HN⟩ : ∃ n, Hid (Im.bt s (c + 1) = n) := ⟨_, rfl⟩
        rw [HN.out] at hn
        have hn256 : n < 256 := by rw [← HN.out]; exact Im.bt_lt s (c + 1)
        by_cases h12 : op = 12
        · have e12 : ((op : Int) == 12) = true := by simp [h12]
          have e10 : ((op : Int) == 10) = false := by simp [h12]
          have e11 : ((op : Int) == 11) = false := by simp [h12]
          by_cases hf : fn ≤ n
          · have HE : Hid (Im.jmp s p fn L L = some c) := HHit.out (by simp [Im.badJ, HOP.out, HN.out, h12, hf])
            clear h12 h2
            go_wp2
            go_ret
            exact ⟨ret_int (by rw [HE.out]; rfl), hend⟩
          · have HE : Hid (Im.jmp s p fn L L = Im.jmp s p fn L (L.drop (k + 1))) := HMis.out (by simp [Im.badJ, HOP.out, HN.out, h12]; omega)
            clear h12 h2
            go_wp2
            go_roundw
            case rel => exact ⟨k + 1, by go_num, by omega, HE, hbl⟩
            case measure => simp [intOf]; omega
        · have e12 : ((op : Int) == 12) = false := by rw [beq_eq_false_iff_ne]; omega
          have HCW : Hid (∀ nq k, k < len → (wr.drewN nq).cell? ⟨b, 0 + k, none⟩ = some (.int .i64 ((nats L).getD k 0))) := by
            intro nq k hk
            rw [getD_nats, Nat.zero_add]
            exact (hend.cell (p := ⟨b, k, none⟩) hb).trans (HC.out k hk)
          have HLN : Hid ((nats L).length = len) := (by simp [nats] : (nats L).length = L.length).trans HLEN.out
          have HIT : Hid (p + n ∉ L → Im.jmp s p fn L L = some c) := fun h => HHit.out (by simp [Im.badJ, HOP.out, HN.out, h]; omega)
          have MIS : Hid (p + n ∈ L → Im.jmp s p fn L L = Im.jmp s p fn L (L.drop (k + 1))) := fun h => HMis.out (by simp [Im.badJ, HOP.out, HN.out, h]; omega)
          have MEM : Hid (hasB (nats L) ((p : Int) + (n : Int)) = decide (p + n ∈ L)) := mem_nats L (p + n)
          clear HHit HMis HC HLEN HL HCZ HOP
          have h1011 : op = 10 ∨ op = 11 := by omega
          clear h12 h2
          have h10b : ((op : Int) == 10) = true ∨ (((op : Int) == 10) = false ∧ ((op : Int) == 11) = true) := by
            rcases h1011 with h | h
            · left; simp [h]
            · right; simp [h]
          clear h1011
          have HT : p + n ∈ L → hasB (nats L) ((p : Int) + (n : Int)) = true := fun h => by rw [MEM.out]; simpa using h
          have HF : p + n ∉ L → hasB (nats L) ((p : Int) + (n : Int)) = false := fun h => by rw [MEM.out]; simpa using h
          by_cases hm : p + n ∈ L
          · have em := HT hm
            have HE : Hid (Im.jmp s p fn L L = Im.jmp s p fn L (L.drop (k + 1))) := MIS.out hm
            clear HT HF hm MEM HIT MIS
            rcases h10b with e10 | ⟨e10, e11⟩
            all_goals
              go_wp2
              go_quiet ((go_at_call 62; exact quiet_same (has_any b 0 len cap (nats L) _ _ (by exact HLN.out) (by omega) (by exact HCW.out _))))
              go_wp2
              go_roundw
              case rel => exact ⟨k + 1, by go_num, by omega, HE, below_drewN hbl _⟩
              case measure => simp [intOf]; omega
          · have em := HF hm
            have HE : Hid (Im.jmp s p fn L L = some c) := HIT.out hm
            clear HT HF hm MEM HIT MIS
            rcases h10b with e10 | ⟨e10, e11⟩
            all_goals
              go_wp2
              go_quiet ((go_at_call 62; exact quiet_same (has_any b 0 len cap (nats L) _ _ (by exact HLN.out) (by omega) (by exact HCW.out _))))
              go_wp2
              go_ret
              exact ⟨ret_int (by rw [HE.out]; rfl), below_drewN hend _⟩
      · have e12 : ((op : Int) == 12) = false := by rw [beq_eq_false_iff_ne]; omega
        have e10 : ((op : Int) == 10) = false := by rw [beq_eq_false_iff_ne]; omega
        have e11 : ((op : Int) == 11) = false := by rw [beq_eq_false_iff_ne]; omega
        have HE : Hid (Im.jmp s p fn L L = Im.jmp s p fn L (L.drop (k + 1))) := HMis.out (by simp [Im.badJ, HOP.out]; omega)
        clear h2
        go_wp2
        go_roundw
        case rel => exact ⟨k + 1, by go_num, by omega, HE, hbl⟩
        case measure => simp [intOf]; omega
    · have HE : Hid (Im.jmp s p fn L L = none) := by
        show Im.jmp s p fn L L = none
        rw [HR.out, List.drop_of_length_le (by rw [HLEN.out]; omega)]; rfl
      go_wp2
      go_ret
      exact ⟨ret_int (by rw [HE.out]; rfl), hend⟩
end Go.Proofs.YtbmaiioecnmopaaGreatDoor

/-
  THE PLAIN MATHEMATICS of images, second part: which texts are images. By the verifier of the loop 'triage'.
-/
namespace Go.Proofs.YtbmaiioecnmopaaGreatDoor
namespace Im

/-- the first answer among n numbers from f on. -/
def firstF (g : Nat → Option Nat) : Nat → Nat → Option Nat
  | 0, _ => none
  | n + 1, f => match g f with
    | some p => some p
    | none => firstF g n (f + 1)
theorem firstF_hit (g : Nat → Option Nat) (n f p : Nat) (h : f < n) (hg : g f = some p) : firstF g (n - f) f = some p := by
  rw [show n - f = (n - f - 1) + 1 by omega]; simp only [firstF]; rw [hg]
theorem firstF_miss (g : Nat → Option Nat) (n f : Nat) (h : f < n) (hg : g f = none) : firstF g (n - f) f = firstF g (n - (f + 1)) (f + 1) := by
  rw [show n - f = (n - (f + 1)) + 1 by omega]; simp only [firstF]; rw [hg]
theorem firstF_done (g : Nat → Option Nat) (n f : Nat) (h : n ≤ f) : firstF g (n - f) f = none := by
  rw [show n - f = 0 by omega]; rfl
theorem firstF_none (g : Nat → Option Nat) : ∀ n f, firstF g n f = none → ∀ k, f ≤ k → k < f + n → g k = none := by
  intro n
  induction n with
  | zero => intro f _ k h1 h2; omega
  | succ n ih =>
    intro f h k h1 h2
    simp only [firstF] at h
    cases hg : g f with
    | some p => rw [hg] at h; simp at h
    | none =>
      rw [hg] at h
      by_cases he : k = f
      · rw [he]; exact hg
      · exact ih (f + 1) h k (by omega) (by omega)

/-- function f's instructions. -/
def fn (s : ByteArray) (f : Nat) : List Nat × Option Nat := run s (st s (f + 1)) (st s f)
def gOp (s : ByteArray) (f : Nat) : Option Nat := (fn s f).2
def gJump (s : ByteArray) (n f : Nat) : Option Nat := jmp s (st s f) n (fn s f).1 (fn s f).1
def lastI (L : List Nat) : Nat := L[L.length - 1]?.getD 0
def gFall (s : ByteArray) (f : Nat) : Option Nat :=
  if bt s (lastI (fn s f).1) = 0 ∨ bt s (lastI (fn s f).1) = 10 ∨ bt s (lastI (fn s f).1) = 17 then none else some (lastI (fn s f).1)

/-- P2: the error and the place. -/
def chk (s : ByteArray) : Int × Int :=
  if 200 < s.size then (1, 0) else
  match hd s with
  | some p => (2, p)
  | none =>
    match firstF (gOp s) (bt s 0) 0 with
    | some p => (3, p)
    | none =>
      match firstF (gJump s (bt s 0)) (bt s 0) 0 with
      | some p => (4, p)
      | none =>
        match firstF (gFall s) (bt s 0) 0 with
        | some p => (5, p)
        | none => (0, 0)

theorem hscan_none (s : ByteArray) : ∀ n i, hscan s n i = none → ∀ k, i ≤ k → k < i + n → okLen s k = true := by
  intro n
  induction n with
  | zero => intro i _ k h1 h2; omega
  | succ n ih =>
    intro i h k h1 h2
    simp only [hscan] at h
    by_cases hk : okLen s i = true
    · rw [if_pos hk] at h
      by_cases he : k = i
      · rw [he]; exact hk
      · exact ih (i + 1) h k (by omega) (by omega)
    · rw [if_neg hk] at h; simp at h
/-- what a good head gives. -/
theorem hd_none (s : ByteArray) (h : hd s = none) : 1 ≤ bt s 0 ∧ bt s 0 ≤ 6 ∧ 0 < s.size ∧ st s (bt s 0) = s.size ∧ ∀ f, f < bt s 0 → f + 1 < s.size ∧ 1 ≤ bt s (f + 1) ∧ bt s (f + 1) ≤ 60 := by
  unfold hd at h
  by_cases h0 : s.size = 0 ∨ bt s 0 < 1 ∨ 6 < bt s 0
  · rw [if_pos h0] at h; simp at h
  · rw [if_neg h0] at h
    cases hs : hscan s (bt s 0) 1 with
    | some i => rw [hs] at h; simp at h
    | none =>
      rw [hs] at h
      simp only at h
      by_cases h1 : s.size < st s (bt s 0)
      · rw [if_pos h1] at h; simp at h
      · rw [if_neg h1] at h
        by_cases h2 : st s (bt s 0) < s.size
        · rw [if_pos h2] at h; simp at h
        · refine ⟨by omega, by omega, by omega, by omega, ?_⟩
          intro f hf
          have hk := hscan_none s _ _ hs (f + 1) (by omega) (by omega)
          unfold okLen at hk
          simp at hk
          exact ⟨hk.1.1, hk.1.2, hk.2⟩
theorem st_le (s : ByteArray) (a b : Nat) (h : a ≤ b) : st s a ≤ st s b := by
  induction b with
  | zero => rw [show a = 0 by omega]; exact Nat.le_refl _
  | succ b ih =>
    by_cases he : a = b + 1
    · rw [he]; exact Nat.le_refl _
    · have := ih (by omega); show st s a ≤ st s b + bt s (b + 1); omega
theorem st_in (s : ByteArray) (h : hd s = none) (f : Nat) (hf : f < bt s 0) : st s f < st s (f + 1) ∧ st s (f + 1) ≤ s.size := by
  obtain ⟨_, _, _, h4, h5⟩ := hd_none s h
  have h6 := (h5 f hf).2.1
  have h7 := st_le s (f + 1) (bt s 0) (by omega)
  rw [h4] at h7
  exact ⟨by show st s f < st s f + bt s (f + 1); omega, h7⟩
theorem fn_mem (s : ByteArray) (f c : Nat) (h : c ∈ (fn s f).1) : st s f ≤ c ∧ c < st s (f + 1) ∧ c + sz (bt s c) ≤ st s (f + 1) ∧ 1 ≤ sz (bt s c) :=
  run_mem s (st s (f + 1)) (st s (f + 1) - st s f) (st s f) (by omega) c h
theorem run_len (s : ByteArray) (to : Nat) : ∀ n p, to - p ≤ n → (run s to p).1.length ≤ to - p := by
  intro n
  induction n with
  | zero => intro p h; rw [run_end s to p (by omega)]; simp
  | succ n ih =>
    intro p h
    by_cases hp : p < to
    · by_cases hb : sz (bt s p) = 0 ∨ to < p + sz (bt s p)
      · rw [run_bad s to p hp hb]; simp
      · rw [run_step s to p hp hb]
        have := ih (p + sz (bt s p)) (by omega)
        simp only [List.length_cons]; omega
    · rw [run_end s to p hp]; simp
theorem fn_len (s : ByteArray) (f : Nat) : (fn s f).1.length ≤ st s (f + 1) - st s f := run_len s _ _ _ (Nat.le_refl _)
theorem run_ne (s : ByteArray) (to p : Nat) (hp : p < to) (h : (run s to p).2 = none) : 0 < (run s to p).1.length := by
  by_cases hb : sz (bt s p) = 0 ∨ to < p + sz (bt s p)
  · rw [run_bad s to p hp hb] at h; simp at h
  · rw [run_step s to p hp hb]; simp
theorem lastI_mem (L : List Nat) (h : 0 < L.length) : lastI L ∈ L := by
  unfold lastI; rw [List.getElem?_eq_getElem (by omega)]; simp
end Im
end Go.Proofs.YtbmaiioecnmopaaGreatDoor
