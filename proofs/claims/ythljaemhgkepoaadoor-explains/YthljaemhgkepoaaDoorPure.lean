/-
  THE PLAIN MATHEMATICS of images: nothing of the dump. By the verifier of the loop 'triage'.
-/
namespace Go.Proofs.YthljaemhgkepoaaDoor
namespace Im

/-- byte k of a text, or 0. -/
def bt (s : ByteArray) (k : Nat) : Nat := if h : k < s.size then (s[k]'h).toNat else 0
theorem bt_lt (s : ByteArray) (k : Nat) : bt s k < 256 := by
  unfold bt; split
  · exact UInt8.toNat_lt _
  · omega
theorem bt_eq (s : ByteArray) (k : Nat) (h : k < s.size) : (s[k]'h).toNat = bt s k := by
  unfold bt; rw [dif_pos h]

/-- the size of an instruction by its op; 0: none. -/
def sz (op : Nat) : Nat := if 17 < op then 0 else if op = 1 ∨ op = 10 ∨ op = 11 ∨ op = 12 then 2 else 1
theorem sz_le (op : Nat) : sz op ≤ 2 := by unfold sz; split <;> (try split) <;> omega

/-- the first place of function f (from 0 on); of the count itself: the end. -/
def st (s : ByteArray) : Nat → Nat
  | 0 => 1 + bt s 0
  | f + 1 => st s f + bt s (f + 1)

/-- is the byte at a place no instruction (of a function that ends at 'to')? -/
def badAt (s : ByteArray) (to at_ : Nat) : Prop := sz (bt s at_) = 0 ∨ to < at_ + sz (bt s at_)
/-- the instructions' places from a place on; the first that is none. -/
def sts (s : ByteArray) (to : Nat) : Nat → Nat → List Nat × Option Nat
  | 0, _ => ([], none)
  | n + 1, p => if p < to then (if sz (bt s p) = 0 ∨ to < p + sz (bt s p) then ([], some p) else (p :: (sts s to n (p + sz (bt s p))).1, (sts s to n (p + sz (bt s p))).2)) else ([], none)
theorem sts_more (s : ByteArray) (to : Nat) : ∀ n m p, to - p ≤ n → to - p ≤ m → sts s to n p = sts s to m p := by
  intro n
  induction n with
  | zero =>
    intro m p h1 h2
    cases m with
    | zero => rfl
    | succ m => simp only [sts]; rw [if_neg (by omega)]
  | succ n ih =>
    intro m p h1 h2
    cases m with
    | zero => simp only [sts]; rw [if_neg (by omega)]
    | succ m =>
      simp only [sts]
      by_cases hp : p < to
      · rw [if_pos hp, if_pos hp]
        by_cases hb : sz (bt s p) = 0 ∨ to < p + sz (bt s p)
        · rw [if_pos hb, if_pos hb]
        · rw [if_neg hb, if_neg hb, ih m _ (by omega) (by omega)]
      · rw [if_neg hp, if_neg hp]
/-- the instructions of a function. -/
def run (s : ByteArray) (to p : Nat) : List Nat × Option Nat := sts s to (to - p) p
theorem run_end (s : ByteArray) (to p : Nat) (h : ¬ p < to) : run s to p = ([], none) := by
  unfold run; rw [show to - p = 0 by omega]; rfl
theorem run_bad (s : ByteArray) (to p : Nat) (h : p < to) (hb : sz (bt s p) = 0 ∨ to < p + sz (bt s p)) : run s to p = ([], some p) := by
  unfold run; obtain ⟨n, hn⟩ : ∃ n, to - p = n + 1 := ⟨to - p - 1, by omega⟩
  rw [hn]; simp only [sts]; rw [if_pos h, if_pos hb]
theorem run_step (s : ByteArray) (to p : Nat) (h : p < to) (hb : ¬ (sz (bt s p) = 0 ∨ to < p + sz (bt s p))) :
    run s to p = (p :: (run s to (p + sz (bt s p))).1, (run s to (p + sz (bt s p))).2) := by
  unfold run; obtain ⟨n, hn⟩ : ∃ n, to - p = n + 1 := ⟨to - p - 1, by omega⟩
  rw [hn]; simp only [sts]; rw [if_pos h, if_neg hb, sts_more s to n (to - (p + sz (bt s p))) _ (by omega) (by omega)]

/-- may byte i tell a function's length? -/
def okLen (s : ByteArray) (i : Nat) : Bool := decide (i < s.size) && decide (1 ≤ bt s i) && decide (bt s i ≤ 60)
/-- of n bytes from i on: the first that tells no length. -/
def hscan (s : ByteArray) : Nat → Nat → Option Nat
  | 0, _ => none
  | n + 1, i => if okLen s i = true then hscan s n (i + 1) else some i
/-- the place of ErrHead. -/
def hd (s : ByteArray) : Option Nat :=
  if s.size = 0 ∨ bt s 0 < 1 ∨ 6 < bt s 0 then some 0 else
  match hscan s (bt s 0) 1 with
  | some i => some i
  | none => if s.size < st s (bt s 0) then some s.size else if st s (bt s 0) < s.size then some (st s (bt s 0)) else none
theorem hd_zero (s : ByteArray) (h : s.size = 0 ∨ bt s 0 < 1 ∨ 6 < bt s 0) : hd s = some 0 := by unfold hd; rw [if_pos h]
theorem hd_len (s : ByteArray) (h : ¬ (s.size = 0 ∨ bt s 0 < 1 ∨ 6 < bt s 0)) (i : Nat) (hi : hscan s (bt s 0) 1 = some i) : hd s = some i := by
  unfold hd; rw [if_neg h, hi]
theorem hd_end (s : ByteArray) (h : ¬ (s.size = 0 ∨ bt s 0 < 1 ∨ 6 < bt s 0)) (hi : hscan s (bt s 0) 1 = none) :
    hd s = if s.size < st s (bt s 0) then some s.size else if st s (bt s 0) < s.size then some (st s (bt s 0)) else none := by
  unfold hd; rw [if_neg h, hi]
theorem hscan_bad (s : ByteArray) (n i : Nat) (h0 : i ≤ n) (h : okLen s i = false) : hscan s (n + 1 - i) i = some i := by
  rw [show n + 1 - i = (n - i) + 1 by omega]; simp only [hscan]; rw [h]; rfl
theorem hscan_good (s : ByteArray) (n i : Nat) (h0 : i ≤ n) (h : okLen s i = true) : hscan s (n + 1 - i) i = hscan s (n + 1 - (i + 1)) (i + 1) := by
  rw [show n + 1 - i = (n + 1 - (i + 1)) + 1 by omega]; simp only [hscan]; rw [if_pos h]
theorem hscan_done (s : ByteArray) (n i : Nat) (h0 : n < i) : hscan s (n + 1 - i) i = none := by
  rw [show n + 1 - i = 0 by omega]; rfl
theorem okLen_not (s : ByteArray) (i : Nat) (h : ¬ (i < s.size ∧ 1 ≤ bt s i ∧ bt s i ≤ 60)) : okLen s i = false := by
  unfold okLen; rw [Bool.eq_false_iff]; intro hh; simp at hh; exact h ⟨hh.1.1, hh.1.2, hh.2⟩
theorem okLen_yes (s : ByteArray) (i : Nat) (h1 : i < s.size) (h2 : 1 ≤ bt s i) (h3 : bt s i ≤ 60) : okLen s i = true := by
  unfold okLen; simp [h1, h2, h3]
theorem st_pred (s : ByteArray) (j : Nat) (h : 1 ≤ j) : st s j = st s (j - 1) + bt s j := by
  obtain ⟨k, rfl⟩ : ∃ k, j = k + 1 := ⟨j - 1, by omega⟩
  rfl

/-- does the instruction at a place go nowhere? (p: its function's first place, L: the places of its instructions, fn: how many functions) -/
def badJ (s : ByteArray) (p fn : Nat) (L : List Nat) (c : Nat) : Bool :=
  (decide (bt s c = 12) && decide (fn ≤ bt s (c + 1))) || ((decide (bt s c = 10) || decide (bt s c = 11)) && !decide (p + bt s (c + 1) ∈ L))
/-- the first one that does. -/
def jmp (s : ByteArray) (p fn : Nat) (L : List Nat) (l : List Nat) : Option Nat := l.find? (badJ s p fn L)
theorem run_mem (s : ByteArray) (to : Nat) : ∀ n p, to - p ≤ n → ∀ c, c ∈ (run s to p).1 → p ≤ c ∧ c < to ∧ c + sz (bt s c) ≤ to ∧ 1 ≤ sz (bt s c) := by
  intro n
  induction n with
  | zero => intro p h c hc; rw [run_end s to p (by omega)] at hc; simp at hc
  | succ n ih =>
    intro p h c hc
    by_cases hp : p < to
    · by_cases hb : sz (bt s p) = 0 ∨ to < p + sz (bt s p)
      · rw [run_bad s to p hp hb] at hc; simp at hc
      · rw [run_step s to p hp hb] at hc
        rcases List.mem_cons.1 hc with rfl | hc
        · omega
        · have := ih _ (by omega) c hc; omega
    · rw [run_end s to p hp] at hc; simp at hc
theorem sz_two_iff (op : Nat) (h : op = 1 ∨ op = 10 ∨ op = 11 ∨ op = 12) : sz op = 2 := by
  unfold sz; rw [if_neg (by omega), if_pos (by omega)]
theorem drop_get (L : List Nat) (k : Nat) (h : k < L.length) : L.drop k = L[k]?.getD 0 :: L.drop (k + 1) := by
  rw [List.drop_eq_getElem_cons h, List.getElem?_eq_getElem h]; rfl
theorem jmp_hit (s : ByteArray) (p fn : Nat) (L : List Nat) (k : Nat) (h : k < L.length) (hb : badJ s p fn L (L[k]?.getD 0) = true) : jmp s p fn L (L.drop k) = some (L[k]?.getD 0) := by
  unfold jmp; rw [drop_get L k h]; simp [hb]
theorem jmp_miss (s : ByteArray) (p fn : Nat) (L : List Nat) (k : Nat) (h : k < L.length) (hb : badJ s p fn L (L[k]?.getD 0) = false) : jmp s p fn L (L.drop k) = jmp s p fn L (L.drop (k + 1)) := by
  unfold jmp; rw [drop_get L k h]; simp [hb]

end Im
end Go.Proofs.YthljaemhgkepoaaDoor
