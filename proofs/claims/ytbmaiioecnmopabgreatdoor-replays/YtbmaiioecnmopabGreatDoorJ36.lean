/-
  ShC, PureP, PureQ, BuA, BuB, BuC: THESE TEXTS, JOINED. By the verifier of the loop 'triage'.
-/
import Derived.Shelf.LaysM
import Derived.Shelf.Strconv.Clone
import Derived.Test.YtbmaiioecnmopabGreatDoorProg
import Derived.WalkKit
import Derived.Test.YtbmaiioecnmopabGreatDoorJ34
import Derived.BigQuiet
import Derived.Deep.RegionHeld3
import Derived.Lib.AppendStr
import Derived.Deep.QuietTactic
/-
  strings.Clone, BY THE SHELF's CONTRACT of internal/stringslite.Clone. By the verifier of the loop 'triage'.
-/
namespace Go.Proofs.YtbmaiioecnmopabGreatDoor
open Go.RowKit Go.Shelf

def cloneRen : Ren := ⟨fun | 316 => 143 | n => n, fun | 9 => 9 | 3 => 3 | 4 => 4 | 37 => 121 | 0 => 0 | 127 => 276 | 5 => 5 | n => n, fun | n => n⟩
theorem cloneLays : LaysM.n316 Tryz.prog cloneRen := {
  mixed := by kernel_rfl
  f316 := Tryz.func143.trans (congrArg some (by kernel_rfl))
  t0 := Tryz.underlying0
  a0 := Tryz.isAgg0
  z0 := Tryz.sizeOf0
  v0 := Tryz.zeroValue0
  t3 := Tryz.underlying3
  a3 := Tryz.isAgg3
  z3 := Tryz.sizeOf3
  v3 := Tryz.zeroValue3
  t4 := Tryz.underlying4
  a4 := Tryz.isAgg4
  z4 := Tryz.sizeOf4
  v4 := Tryz.zeroValue4
  t9 := Tryz.underlying9
  a9 := Tryz.isAgg9
  z9 := Tryz.sizeOf9
  v9 := Tryz.zeroValue9
  t37 := Tryz.underlying121
  a37 := Tryz.isAgg121
  z37 := Tryz.sizeOf121
  v37 := Tryz.zeroValue121
  t127 := Tryz.underlying276
  a127 := Tryz.isAgg276
  z127 := Tryz.sizeOf276
  v127 := Tryz.zeroValue276
  t5 := Tryz.underlying5
  a5 := Tryz.isAgg5
  z5 := Tryz.sizeOf5
  v5 := Tryz.zeroValue5
  i0 := by kernel_rfl
  i3 := by kernel_rfl
  i4 := by kernel_rfl
  i5 := by kernel_rfl
  i9 := by kernel_rfl
  i37 := by kernel_rfl
  i127 := by kernel_rfl }
theorem lowClone_any (t : ByteArray) (w : World) (h : t.size ≤ 100000) : Calls Tryz.prog 143 #[.string t] w fun e w' => e = .returned (.string t) ∧ Below w.heap.size w w' := Any.stringslite_Clone cloneLays t w (by omega)

set_option maxHeartbeats 400000 in
theorem clone_str (t : ByteArray) (w : World) (h : t.size ≤ 100000) : Calls Tryz.prog 103 #[.string t] w fun e w' => e = .returned (.string t) ∧ Below w.heap.size w w' := by
  go_enter Tryz.func103, Tryz.ntmps103
  go_wp2_with fail
  refine (lowClone_any t _ h).mono ?_
  rintro e w1 ⟨rfl, hb⟩
  have HB : Hid (Below w.heap.size w w1) := hb
  clear hb
  go_wp2
  go_ret
  exact ⟨rfl, HB.out⟩
end Go.Proofs.YtbmaiioecnmopabGreatDoor

/-
  THE PLAIN MATHEMATICS of bundles (P8): the sum of 32 bits, and bursts. Nothing of the dump. By the verifier of the loop 'triage'.
-/
namespace Go.Proofs.YtbmaiioecnmopabGreatDoor
namespace Bu

/-- the powers of the polynomial. -/
def pw : Nat := 3988292384
/-- one bit: of a register and all of the text behind it, as one number. -/
def S (x : Nat) : Nat := if x % 2 = 1 then (x / 2) ^^^ pw else x / 2
theorem xor_half (a b : Nat) : (a ^^^ b) / 2 = (a / 2) ^^^ (b / 2) := by
  have := Nat.shiftRight_xor_distrib (a := a) (b := b) (i := 1)
  simpa [Nat.shiftRight_succ] using this
theorem xor_odd (a b : Nat) : (a ^^^ b) % 2 = (a + b) % 2 := by
  rcases Nat.mod_two_eq_zero_or_one a with h1 | h1 <;> rcases Nat.mod_two_eq_zero_or_one b with h2 | h2
  all_goals
    have h := Nat.testBit_xor (x := a) (y := b) (i := 0)
    simp only [Nat.testBit_zero, h1, h2] at h
    rcases Nat.mod_two_eq_zero_or_one (a ^^^ b) with h3 | h3 <;> simp [h3] at h ⊢ <;> omega
theorem S_xor (a b : Nat) : S (a ^^^ b) = S a ^^^ S b := by
  unfold S
  rw [xor_odd, xor_half]
  rcases Nat.mod_two_eq_zero_or_one a with h1 | h1 <;> rcases Nat.mod_two_eq_zero_or_one b with h2 | h2
  · rw [if_neg (by omega), if_neg (by omega), if_neg (by omega)]
  · rw [if_pos (by omega), if_neg (by omega), if_pos (by omega), Nat.xor_assoc]
  · rw [if_pos (by omega), if_pos (by omega), if_neg (by omega), Nat.xor_assoc, Nat.xor_assoc, Nat.xor_comm pw]
  · rw [if_neg (by omega), if_pos (by omega), if_pos (by omega), Nat.xor_assoc, ← Nat.xor_assoc pw, Nat.xor_comm pw, Nat.xor_assoc, Nat.xor_self, Nat.xor_zero]
theorem S_zero : S 0 = 0 := rfl
/-- n bits. -/
def Sn : Nat → Nat → Nat
  | 0, x => x
  | n + 1, x => Sn n (S x)
theorem Sn_xor (n : Nat) : ∀ a b, Sn n (a ^^^ b) = Sn n a ^^^ Sn n b := by
  induction n with
  | zero => intro a b; rfl
  | succ n ih => intro a b; show Sn n (S (a ^^^ b)) = _; rw [S_xor, ih]; rfl
theorem Sn_zero (n : Nat) : Sn n 0 = 0 := by
  induction n with
  | zero => rfl
  | succ n ih => show Sn n (S 0) = 0; rw [S_zero, ih]
theorem Sn_add (m : Nat) : ∀ n x, Sn (m + n) x = Sn n (Sn m x) := by
  induction m with
  | zero => intro n x; rw [Nat.zero_add]; rfl
  | succ m ih => intro n x; rw [Nat.add_right_comm]; show Sn (m + n) (S x) = _; rw [ih]; rfl
theorem S_even (x : Nat) : S (2 * x) = x := by unfold S; rw [if_neg (by omega)]; omega
theorem Sn_pow (n x : Nat) : Sn n (2 ^ n * x) = x := by
  induction n generalizing x with
  | zero => show 2 ^ 0 * x = x; simp
  | succ n ih =>
    show Sn n (S (2 ^ (n + 1) * x)) = x
    rw [Nat.pow_succ, Nat.mul_comm (2 ^ n) 2, Nat.mul_assoc, S_even, ih]
theorem S_lt {x : Nat} (h : x < 2 ^ 32) : S x < 2 ^ 32 := by
  unfold S
  split
  · exact Nat.xor_lt_two_pow (by omega) (by unfold pw; omega)
  · omega
theorem pw_bit (x : Nat) (h : x < 2 ^ 31) : 2 ^ 31 ≤ x ^^^ pw := by
  have h1 : (x ^^^ pw).testBit 31 = true := by
    rw [Nat.testBit_xor, Nat.testBit_lt_two_pow h]
    decide
  exact Nat.ge_two_pow_of_testBit h1
theorem S_inj {x : Nat} (h : x < 2 ^ 32) (h0 : S x = 0) : x = 0 := by
  unfold S at h0
  split at h0
  · have := pw_bit (x / 2) (by omega)
    omega
  · omega
theorem Sn_inj (n : Nat) : ∀ {x : Nat}, x < 2 ^ 32 → Sn n x = 0 → x = 0 := by
  induction n with
  | zero => intro x _ h; exact h
  | succ n ih => intro x h h0; exact S_inj h (ih (S_lt h) h0)
/-- NO BURST PASSES: what differs within 32 bits differs in the sum. -/
theorem burst {m a z : Nat} (hz : z < 2 ^ 32) (h : Sn m (2 ^ a * z) = 0) : z = 0 := by
  rcases Nat.le_total a m with hle | hle
  · obtain ⟨k, rfl⟩ : ∃ k, m = a + k := ⟨m - a, by omega⟩
    rw [Sn_add, Sn_pow] at h
    exact Sn_inj k hz h
  · obtain ⟨k, rfl⟩ : ∃ k, a = m + k := ⟨a - m, by omega⟩
    rw [Nat.pow_add, Nat.mul_assoc, Sn_pow] at h
    rcases Nat.mul_eq_zero.1 h with h | h
    · exact absurd h (by have := Nat.two_pow_pos k; omega)
    · exact h

/-- a text, as one number: its first bit is the lowest. -/
def V : List Nat → Nat
  | [] => 0
  | b :: l => b ^^^ (2 ^ 8 * V l)
/-- the register behind a text. -/
def reg : List Nat → Nat → Nat
  | [], r => r
  | b :: l, r => reg l (Sn 8 (r ^^^ b))
theorem reg_V (l : List Nat) : ∀ r, reg l r = Sn (8 * l.length) (V l ^^^ r) := by
  induction l with
  | nil => intro r; show r = 0 ^^^ r; rw [Nat.zero_xor]
  | cons b l ih =>
    intro r
    show reg l (Sn 8 (r ^^^ b)) = Sn (8 * (l.length + 1)) ((b ^^^ 2 ^ 8 * V l) ^^^ r)
    rw [ih, show 8 * (l.length + 1) = 8 + 8 * l.length from by omega, Sn_add]
    congr 1
    rw [show (b ^^^ 2 ^ 8 * V l) ^^^ r = (2 ^ 8 * V l) ^^^ (r ^^^ b) from by rw [Nat.xor_comm b, Nat.xor_assoc, Nat.xor_comm b r], Sn_xor 8 (2 ^ 8 * V l), Sn_pow]
def ones : Nat := 4294967295
/-- the seal of a text. -/
def sl (l : List Nat) : Nat := reg l ones ^^^ ones
/-- a number in four bytes. -/
def four (n : Nat) : List Nat := [n % 256, n / 256 % 256, n / 65536 % 256, n / 16777216 % 256]
def sealed (l : List Nat) : List Nat := l ++ four (sl l)
theorem V_app (l m : List Nat) : V (l ++ m) = V l ^^^ (2 ^ (8 * l.length) * V m) := by
  induction l with
  | nil => show V m = 0 ^^^ (2 ^ 0 * V m); rw [Nat.zero_xor, Nat.pow_zero, Nat.one_mul]
  | cons b l ih =>
    show b ^^^ (2 ^ 8 * V (l ++ m)) = (b ^^^ (2 ^ 8 * V l)) ^^^ (2 ^ (8 * (l.length + 1)) * V m)
    rw [ih, Nat.xor_assoc]
    congr 1
    rw [show 8 * (l.length + 1) = 8 + 8 * l.length from by omega, Nat.pow_add, Nat.mul_assoc]
    have h : ∀ x y : Nat, 2 ^ 8 * (x ^^^ y) = (2 ^ 8 * x) ^^^ (2 ^ 8 * y) := by
      intro x y
      have := Nat.shiftLeft_xor_distrib (a := x) (b := y) (i := 8)
      simp only [Nat.shiftLeft_eq] at this
      rw [Nat.mul_comm, this, Nat.mul_comm x, Nat.mul_comm y]
    exact h _ _
theorem V_four {n : Nat} (h : n < 2 ^ 32) : V (four n) = n := by
  unfold four
  simp only [V]
  have add : ∀ a b : Nat, a < 256 → a ^^^ (2 ^ 8 * b) = a + 2 ^ 8 * b := by
    intro a b ha
    apply Nat.eq_of_testBit_eq
    intro i
    rw [Nat.testBit_xor, Nat.add_comm, Nat.mul_comm, ← Nat.shiftLeft_eq, Nat.shiftLeft_add_eq_or_of_lt (by simpa using ha), Nat.testBit_or, Nat.testBit_shiftLeft]
    by_cases hi : 8 ≤ i
    · have : a.testBit i = false := Nat.testBit_lt_two_pow (Nat.lt_of_lt_of_le ha (by have := Nat.pow_le_pow_right (n := 2) (by omega) hi; simpa using this))
      rw [this]; simp
    · simp [hi]
  rw [add _ _ (by omega), add _ _ (by omega), add _ _ (by omega)]
  simp
  omega
theorem reg_lt (l : List Nat) (hl : ∀ b ∈ l, b < 256) : ∀ r, r < 2 ^ 32 → reg l r < 2 ^ 32 := by
  have h8 : ∀ n x, x < 2 ^ 32 → Sn n x < 2 ^ 32 := by
    intro n
    induction n with
    | zero => intro x h; exact h
    | succ n ih => intro x h; exact ih _ (S_lt h)
  induction l with
  | nil => intro r h; exact h
  | cons b l ih =>
    intro r h
    refine ih (fun c hc => hl c (List.mem_cons_of_mem _ hc)) _ (h8 8 _ (Nat.xor_lt_two_pow h ?_))
    exact Nat.lt_of_lt_of_le (hl b List.mem_cons_self) (by decide)
theorem sl_lt (l : List Nat) (hl : ∀ b ∈ l, b < 256) : sl l < 2 ^ 32 := Nat.xor_lt_two_pow (reg_lt l hl _ (by unfold ones; omega)) (by unfold ones; omega)
/-- a sealed text, by its bits. -/
theorem sealed_V (l : List Nat) (hl : ∀ b ∈ l, b < 256) : Sn (8 * l.length) (V (sealed l) ^^^ ones) = ones := by
  unfold sealed
  rw [V_app, V_four (sl_lt l hl), Nat.xor_assoc, Nat.xor_comm _ ones, ← Nat.xor_assoc, Sn_xor, Sn_pow, ← reg_V]
  unfold sl
  rw [← Nat.xor_assoc, Nat.xor_self, Nat.zero_xor]
/-- two sealed texts of one length that differ within 32 bits are one. -/
theorem sealed_burst {l m : List Nat} (hl : ∀ b ∈ l, b < 256) (hm : ∀ b ∈ m, b < 256) (hlen : l.length = m.length) {a z : Nat} (hz : z < 2 ^ 32) (h : V (sealed m) = V (sealed l) ^^^ (2 ^ a * z)) : z = 0 := by
  have h1 := sealed_V l hl
  have h2 := sealed_V m hm
  rw [← hlen, h, Nat.xor_assoc, Nat.xor_comm _ ones, ← Nat.xor_assoc, Sn_xor, h1] at h2
  refine burst (m := 8 * l.length) (a := a) hz ?_
  have := congrArg (fun x => ones ^^^ x) h2
  simp only [← Nat.xor_assoc, Nat.xor_self, Nat.zero_xor] at this
  exact this
end Bu
end Go.Proofs.YtbmaiioecnmopabGreatDoor

/-
  THE PLAIN MATHEMATICS of bundles (P8): a bundle's text, and how it is read. Nothing of the dump. By the verifier of the loop 'triage'.
-/
namespace Go.Proofs.YtbmaiioecnmopabGreatDoor
namespace Bu

structure Bn where
  fu : Nat
  de : Nat
  kd : Nat
  im : List Nat
  inp : List Nat
  sts : List (Nat × Nat)
  eds : List Nat
/-- a number in two bytes. -/
def two (n : Nat) : List Nat := [n % 256, n / 256 % 256]
def twos (l : List Nat) : List Nat := l.flatMap two
def txt (l : List Nat) : List Nat := two l.length ++ l
def flat (l : List (Nat × Nat)) : List Nat := l.flatMap fun p => two p.1 ++ two p.2
/-- what is written ahead of the seal. -/
def body (b : Bn) : List Nat := two b.fu ++ (two b.de ++ (two b.kd ++ (txt b.im ++ (txt b.inp ++ (two b.sts.length ++ (flat b.sts ++ (two b.eds.length ++ twos b.eds)))))))
/-- how a number is read: it, and what is left. -/
def rnum (l : List Nat) : Nat × List Nat := (if l.length < 2 then 0 else l[0]?.getD 0 + 256 * l[1]?.getD 0, l.drop 2)
def rtxt (l : List Nat) : List Nat × List Nat := ((rnum l).2.take (rnum l).1, (rnum l).2.drop (rnum l).1)
def rcount (l : List Nat) : Nat × List Nat := (min (rnum l).1 (rnum l).2.length, (rnum l).2)
def rnums : Nat → List Nat → List Nat × List Nat
  | 0, l => ([], l)
  | n + 1, l => ((rnums n l).1 ++ [(rnum (rnums n l).2).1], (rnum (rnums n l).2).2)
def rprs : Nat → List Nat → List (Nat × Nat) × List Nat
  | 0, l => ([], l)
  | n + 1, l => ((rprs n l).1 ++ [((rnum (rprs n l).2).1, (rnum (rnum (rprs n l).2).2).1)], (rnum (rnum (rprs n l).2).2).2)
def rsites (l : List Nat) : List (Nat × Nat) × List Nat := rprs (rcount l).1 (rcount l).2
def redges (l : List Nat) : List Nat × List Nat := rnums (rcount l).1 (rcount l).2
/-- a text, read. -/
def parse (l : List Nat) : Bn :=
  let a := rnum l
  let b := rnum a.2
  let c := rnum b.2
  let d := rtxt c.2
  let e := rtxt d.2
  let f := rsites e.2
  let g := redges f.2
  ⟨a.1, b.1, c.1, d.1, e.1, f.1, g.1⟩
theorem two_len (n : Nat) : (two n).length = 2 := rfl
theorem rnum_two {n : Nat} (h : n < 65536) (l : List Nat) : rnum (two n ++ l) = (n, l) := by
  unfold rnum two
  rw [if_neg (by simp)]
  simp
  omega
theorem rtxt_txt {t : List Nat} (h : t.length < 65536) (l : List Nat) : rtxt (txt t ++ l) = (t, l) := by
  unfold rtxt txt
  rw [List.append_assoc, rnum_two h]
  simp
theorem rcount_two {n : Nat} (h : n < 65536) (l : List Nat) (hl : n ≤ l.length) : rcount (two n ++ l) = (n, l) := by
  unfold rcount
  rw [rnum_two h]
  simp only [Prod.mk.injEq, and_true]
  omega
theorem twos_len (l : List Nat) : (twos l).length = 2 * l.length := by
  induction l with
  | nil => rfl
  | cons a l ih => unfold twos at *; rw [List.flatMap_cons, List.length_append, ih, two_len, List.length_cons]; omega
theorem flat_len (l : List (Nat × Nat)) : (flat l).length = 4 * l.length := by
  induction l with
  | nil => rfl
  | cons a l ih => unfold flat at *; rw [List.flatMap_cons, List.length_append, ih, List.length_append, two_len, two_len, List.length_cons]; omega
theorem rnums_twos (t l : List Nat) (ht : ∀ x ∈ t, x < 65536) : ∀ n, n ≤ t.length → rnums n (twos t ++ l) = (t.take n, twos (t.drop n) ++ l) := by
  intro n
  induction n with
  | zero => intro _; simp [rnums]
  | succ n ih =>
    intro hn
    have h := ih (by omega)
    have hd : t.drop n = t[n] :: t.drop (n + 1) := List.drop_eq_getElem_cons (by omega)
    unfold rnums
    rw [h]
    dsimp only
    rw [hd]
    unfold twos
    rw [List.flatMap_cons, List.append_assoc, rnum_two (ht _ (List.getElem_mem _))]
    dsimp only
    rw [List.take_add_one, List.getElem?_eq_getElem (by omega)]
    rfl
theorem rprs_flat (t : List (Nat × Nat)) (l : List Nat) (ht : ∀ x ∈ t, x.1 < 65536 ∧ x.2 < 65536) : ∀ n, n ≤ t.length → rprs n (flat t ++ l) = (t.take n, flat (t.drop n) ++ l) := by
  intro n
  induction n with
  | zero => intro _; simp [rprs]
  | succ n ih =>
    intro hn
    have h := ih (by omega)
    have hd : t.drop n = t[n] :: t.drop (n + 1) := List.drop_eq_getElem_cons (by omega)
    have hb := ht t[n] (List.getElem_mem (by omega))
    unfold rprs
    rw [h]
    dsimp only
    rw [hd]
    unfold flat
    rw [List.flatMap_cons, List.append_assoc, List.append_assoc, rnum_two hb.1]
    dsimp only
    rw [rnum_two hb.2]
    dsimp only
    rw [List.take_add_one, List.getElem?_eq_getElem (by omega)]
    rfl
/-- all that is in a bundle is small enough for its text. -/
structure Small (b : Bn) : Prop where
  fu : b.fu < 65536
  de : b.de < 65536
  kd : b.kd < 65536
  im : b.im.length < 65536
  inp : b.inp.length < 65536
  sl : b.sts.length < 65536
  sts : ∀ x ∈ b.sts, x.1 < 65536 ∧ x.2 < 65536
  el : b.eds.length < 65536
  eds : ∀ x ∈ b.eds, x < 65536
/-- what was written is read. -/
theorem parse_body (b : Bn) (h : Small b) (l : List Nat) : parse (body b ++ l) = b := by
  have hs := rprs_flat b.sts (two b.eds.length ++ (twos b.eds ++ l)) h.sts b.sts.length (Nat.le_refl _)
  have he := rnums_twos b.eds l h.eds b.eds.length (Nat.le_refl _)
  rw [List.take_of_length_le (Nat.le_refl _), List.drop_of_length_le (Nat.le_refl _)] at hs he
  unfold parse body
  simp only [List.append_assoc]
  simp only [rnum_two h.fu, rnum_two h.de, rnum_two h.kd, rtxt_txt h.im, rtxt_txt h.inp]
  have h1 : rsites (two b.sts.length ++ (flat b.sts ++ (two b.eds.length ++ (twos b.eds ++ l)))) = (b.sts, two b.eds.length ++ (twos b.eds ++ l)) := by
    unfold rsites
    rw [rcount_two h.sl _ (by rw [List.length_append, flat_len]; omega)]
    exact hs
  have h2 : redges (two b.eds.length ++ (twos b.eds ++ l)) = (b.eds, l) := by
    unfold redges
    rw [rcount_two h.el _ (by rw [List.length_append, twos_len]; omega)]
    exact he
  rw [h1]
  dsimp only
  rw [h2]
/-- a bundle's text. -/
def text (b : Bn) : List Nat := sealed (body b)
theorem parse_text (b : Bn) (h : Small b) : parse (text b) = b := parse_body b h _
def Byt (l : List Nat) : Prop := ∀ b ∈ l, b < 256
theorem byt_app {l m : List Nat} (h1 : Byt l) (h2 : Byt m) : Byt (l ++ m) := fun b hb => (List.mem_append.1 hb).elim (h1 b) (h2 b)
theorem byt_two (n : Nat) : Byt (two n) := by
  intro b hb
  simp [two] at hb
  omega
theorem byt_four (n : Nat) : Byt (four n) := by
  intro b hb
  simp [four] at hb
  omega
theorem byt_twos (l : List Nat) : Byt (twos l) := by
  intro b hb
  obtain ⟨n, -, h⟩ := List.mem_flatMap.1 hb
  exact byt_two n b h
theorem byt_flat (l : List (Nat × Nat)) : Byt (flat l) := by
  intro b hb
  obtain ⟨n, -, h⟩ := List.mem_flatMap.1 hb
  exact byt_app (byt_two _) (byt_two _) b h
theorem byt_body (b : Bn) (h1 : Byt b.im) (h2 : Byt b.inp) : Byt (body b) :=
  byt_app (byt_two _) (byt_app (byt_two _) (byt_app (byt_two _) (byt_app (byt_app (byt_two _) h1) (byt_app (byt_app (byt_two _) h2) (byt_app (byt_two _) (byt_app (byt_flat _) (byt_app (byt_two _) (byt_twos _))))))))
theorem byt_text (b : Bn) (h1 : Byt b.im) (h2 : Byt b.inp) : Byt (text b) := byt_app (byt_body b h1 h2) (byt_four _)
/-- two texts of bundles of one length that differ within 32 bits are one. -/
theorem text_burst {b c : Bn} (h1 : Byt b.im) (h2 : Byt b.inp) (h3 : Byt c.im) (h4 : Byt c.inp) (hl : (text c).length = (text b).length) {a z : Nat} (hz : z < 2 ^ 32) (h : V (text c) = V (text b) ^^^ (2 ^ a * z)) : z = 0 := by
  refine sealed_burst (byt_body b h1 h2) (byt_body c h3 h4) ?_ hz h
  unfold text sealed at hl
  simp [four] at hl
  exact hl.symm
/-- a text by its bits. -/
theorem V_bit (l : List Nat) (hl : Byt l) : ∀ i k, k < 8 → (V l).testBit (8 * i + k) = (l[i]?.getD 0).testBit k := by
  induction l with
  | nil => intro i k _; simp [V]
  | cons b l ih =>
    intro i k hk
    have ih' := ih (fun c hc => hl c (List.mem_cons_of_mem _ hc))
    have hb : b < 256 := hl b List.mem_cons_self
    show (b ^^^ (2 ^ 8 * V l)).testBit (8 * i + k) = _
    rw [Nat.testBit_xor, Nat.testBit_two_pow_mul]
    cases i with
    | zero =>
      have : ¬ 8 ≤ 8 * 0 + k := by omega
      simp [show ¬ 8 ≤ k from by omega]
    | succ i =>
      have h0 : b.testBit (8 * (i + 1) + k) = false := Nat.testBit_lt_two_pow (Nat.lt_of_lt_of_le hb (by have := Nat.pow_le_pow_right (n := 2) (by omega) (show 8 ≤ 8 * (i + 1) + k by omega); simpa using this))
      rw [h0, show 8 * (i + 1) + k - 8 = 8 * i + k from by omega, ih' i k hk]
      simp
      omega
theorem V_inj {l m : List Nat} (hl : Byt l) (hm : Byt m) (hlen : l.length = m.length) (h : V l = V m) : l = m := by
  apply List.ext_getElem hlen
  intro i h1 h2
  apply Nat.eq_of_testBit_eq
  intro k
  by_cases hk : k < 8
  · have a := V_bit l hl i k hk
    have b := V_bit m hm i k hk
    rw [h, b, List.getElem?_eq_getElem h1, List.getElem?_eq_getElem h2] at a
    exact a.symm
  · have big : ∀ x, x < 256 → x.testBit k = false := fun x hx => Nat.testBit_lt_two_pow (Nat.lt_of_lt_of_le hx (by have := Nat.pow_le_pow_right (n := 2) (by omega) (show 8 ≤ k by omega); simpa using this))
    rw [big _ (hl _ (List.getElem_mem h1)), big _ (hm _ (List.getElem_mem h2))]
/-- a text with a burst: bit d of it is turned where the burst has it. -/
theorem flip_V {s t : List Nat} (hs : Byt s) (ht : Byt t) (hlen : t.length = s.length) (at' z : Nat)
    (h : ∀ i k, i < s.length → k < 8 → (t[i]?.getD 0).testBit k = ((s[i]?.getD 0).testBit k ^^ (decide (at' ≤ 8 * i + k) && z.testBit (8 * i + k - at')))) : V t = V s ^^^ (2 ^ at' * z) % 2 ^ (8 * s.length) := by
  apply Nat.eq_of_testBit_eq
  intro d
  rw [Nat.testBit_xor, Nat.testBit_mod_two_pow, Nat.testBit_two_pow_mul]
  have hd : d = 8 * (d / 8) + d % 8 := by omega
  have hk : d % 8 < 8 := by omega
  generalize d / 8 = i at *
  generalize d % 8 = k at *
  subst hd
  rw [V_bit t ht i k hk, V_bit s hs i k hk]
  by_cases hi : i < s.length
  · rw [h i k hi hk]
    have : 8 * i + k < 8 * s.length := by omega
    simp [this]
  · rw [List.getElem?_eq_none (by omega), List.getElem?_eq_none (by omega)]
    have : ¬ 8 * i + k < 8 * s.length := by omega
    simp [this]
/-- of a burst, what is within the text: itself a burst. -/
theorem cut_burst (a z n : Nat) (hz : z < 2 ^ 32) : ∃ y, y < 2 ^ 32 ∧ (2 ^ a * z) % 2 ^ n = 2 ^ a * y := by
  rcases Nat.le_total a n with h | h
  · obtain ⟨k, rfl⟩ : ∃ k, n = a + k := ⟨n - a, by omega⟩
    exact ⟨z % 2 ^ k, Nat.lt_of_le_of_lt (Nat.mod_le _ _) hz, by rw [Nat.pow_add, Nat.mul_mod_mul_left]⟩
  · obtain ⟨k, rfl⟩ : ∃ k, a = n + k := ⟨a - n, by omega⟩
    exact ⟨0, by decide, by rw [Nat.pow_add, Nat.mul_assoc, Nat.mul_mod_right]; rfl⟩
/-- no burst in a bundle's text is a bundle's text. -/
theorem no_burst {b c : Bn} (h1 : Byt b.im) (h2 : Byt b.inp) (h3 : Byt c.im) (h4 : Byt c.inp) (hlen : (text c).length = (text b).length) {at' z : Nat} (hz : z < 2 ^ 32)
    (h : ∀ i k, i < (text b).length → k < 8 → ((text c)[i]?.getD 0).testBit k = (((text b)[i]?.getD 0).testBit k ^^ (decide (at' ≤ 8 * i + k) && z.testBit (8 * i + k - at')))) : text c = text b := by
  have e := flip_V (byt_text b h1 h2) (byt_text c h3 h4) hlen at' z h
  obtain ⟨y, hy, e2⟩ := cut_burst at' z (8 * (text b).length) hz
  rw [e2] at e
  have := text_burst h1 h2 h3 h4 hlen hy e
  subst this
  rw [Nat.mul_zero, Nat.xor_zero] at e
  exact V_inj (byt_text c h3 h4) (byt_text b h1 h2) hlen e
end Bu
end Go.Proofs.YtbmaiioecnmopabGreatDoor

/-
  BUNDLES: rows that can be read, of numbers of any sign. By the verifier of the loop 'triage'.
-/
namespace Go.Proofs.YtbmaiioecnmopabGreatDoor
open Go.RowKit

/-- a row that can be read: n elements of so many cells. -/
def Rd (w : World) (n : Nat) (v : Value) (xs : List Value) : Prop :=
  ∃ a cap, v = .slice a n cap ∧ n ≤ cap ∧ cap ≤ maxLen ∧ (0 < n → ∃ g o, a = some ⟨g, o, none⟩ ∧ g < w.heap.size ∧ ∀ i u, xs[i]? = some u → w.cell? ⟨g, o + i, none⟩ = some u)
theorem Rd.below {w w' : World} {n : Nat} {v : Value} {xs : List Value} (h : Rd w n v xs) (hb : Below w.heap.size w w') : Rd w' n v xs := by
  obtain ⟨a, cap, h1, h2, h3, h4⟩ := h
  refine ⟨a, cap, h1, h2, h3, fun h0 => ?_⟩
  obtain ⟨g, o, e, hg, hc⟩ := h4 h0
  exact ⟨g, o, e, Nat.lt_of_lt_of_le hg hb.size, fun i u hi => (hb.cell (p := ⟨g, o + i, none⟩) hg).trans (hc i u hi)⟩
theorem Rd.alloc {w : World} {n : Nat} {v : Value} {xs : List Value} (h : Rd w n v xs) (o : Obj) : Rd (w.alloc o) n v xs := h.below ((Below.refl _ _).alloc (Nat.le_refl _) _)
theorem Rd.drew {w : World} {n : Nat} {v : Value} {xs : List Value} (h : Rd w n v xs) : Rd w.drew n v xs := h
theorem rd_owns {w : World} {base : Nat} {e : TypeId} {size : Nat} {v : Value} {n : Nat} {xs : List Value} (h : w.ownsRow base e size v n xs) : Rd w n v xs := by
  obtain ⟨a, cap, h1, h2, h3, h4⟩ := owns_shape h
  refine ⟨a, cap, h1, h2, h3, fun h0 => ?_⟩
  obtain ⟨g, e, -, hg, hc⟩ := h4 h0
  exact ⟨g, 0, e, hg, fun i u hi => by rw [Nat.zero_add]; exact hc i u hi⟩
theorem rd_nil (w : World) : Rd w 0 (.slice none 0 0) [] := ⟨none, 0, rfl, Nat.le_refl _, Nat.zero_le _, fun h => absurd h (by simp)⟩
/-- numbers, and pairs of them. -/
def inI (l : List Int) : List Value := l.map fun x => .int .i64 x
def prI : List (Int × Int) → List Value
  | [] => []
  | p :: r => .int .i64 p.1 :: .int .i64 p.2 :: prI r
def upI (l : List Nat) : List Int := l.map fun x : Nat => (x : Int)
def upP (l : List (Nat × Nat)) : List (Int × Int) := l.map fun p => ((p.1 : Int), (p.2 : Int))
theorem inI_ints (l : List Nat) : ints l = inI (upI l) := by simp [ints, inI, upI]
theorem prI_prs (l : List (Nat × Nat)) : prs l = prI (upP l) := by
  induction l with
  | nil => rfl
  | cons p l ih => show _ :: _ :: prs l = _ :: _ :: prI (upP l); rw [ih]
theorem prI_append (a b : List (Int × Int)) : prI (a ++ b) = prI a ++ prI b := by
  induction a with
  | nil => rfl
  | cons p a ih => show _ :: _ :: prI (a ++ b) = _; rw [ih]; rfl
theorem inI_get (l : List Int) (j : Nat) (h : j < l.length) : (inI l)[j]? = some (.int .i64 (l[j]?.getD 0)) := by simp [inI, List.getElem?_eq_getElem h]
theorem prI_get (l : List (Int × Int)) : ∀ j, j < l.length → (prI l)[j * 2]? = some (.int .i64 (l[j]?.getD (0, 0)).1) ∧ (prI l)[j * 2 + 1]? = some (.int .i64 (l[j]?.getD (0, 0)).2) := by
  induction l with
  | nil => intro j h; simp at h
  | cons p l ih =>
    intro j h
    cases j with
    | zero => exact ⟨rfl, rfl⟩
    | succ j =>
      have := ih j (by simpa using h)
      rw [show (j + 1) * 2 = j * 2 + 2 from by omega]
      exact this
theorem prI_len (l : List (Int × Int)) : (prI l).length = l.length * 2 := by
  induction l with
  | nil => rfl
  | cons p l ih => show (prI l).length + 1 + 1 = (l.length + 1) * 2; rw [ih]; omega
/-- may these sites be in a bundle? -/
def stOk (p : Int × Int) : Bool := decide (0 ≤ p.1 ∧ p.1 < 6 ∧ 0 ≤ p.2 ∧ p.2 < 200)
def stsOk (l : List (Int × Int)) : Bool := l.all stOk
/-- may these edges, behind a last one? -/
def edsOk : Int → List Int → Bool
  | _, [] => true
  | last, e :: r => decide (last < e ∧ e < 400) && edsOk e r
theorem stsOk_drop (l : List (Int × Int)) (j : Nat) (h : j < l.length) : stsOk (l.drop j) = (stOk (l[j]?.getD (0, 0)) && stsOk (l.drop (j + 1))) := by
  rw [List.drop_eq_getElem_cons h, List.getElem?_eq_getElem h]
  rfl
theorem edsOk_drop (last : Int) (l : List Int) (j : Nat) (h : j < l.length) : edsOk last (l.drop j) = (decide (last < l[j]?.getD 0 ∧ l[j]?.getD 0 < 400) && edsOk (l[j]?.getD 0) (l.drop (j + 1))) := by
  rw [List.drop_eq_getElem_cons h, List.getElem?_eq_getElem h]
  rfl
end Go.Proofs.YtbmaiioecnmopabGreatDoor

/-
  BUNDLES, THE PROGRAM's SIDE (package triage): sealOf. By the verifier of the loop 'triage'.
-/
namespace Go.Proofs.YtbmaiioecnmopabGreatDoor
open Go.RowKit

/-- bytes, as they lie in memory. -/
def bys (l : List Nat) : List Value := l.map fun b : Nat => .int .u8 (b : Int)
theorem bys_get (l : List Nat) (j : Nat) (h : j < l.length) : (bys l)[j]? = some (.int .u8 (l[j]?.getD 0 : Nat)) := by simp [bys, List.getElem?_eq_getElem h]
theorem reg_snoc (l : List Nat) : ∀ (r j : Nat), j < l.length → Bu.reg (l.take (j + 1)) r = Bu.Sn 8 (Bu.reg (l.take j) r ^^^ l[j]?.getD 0) := by
  induction l with
  | nil => intro r j h; simp at h
  | cons b l ih =>
    intro r j h
    cases j with
    | zero => rfl
    | succ j => exact ih _ j (by simpa using h)
theorem Sn_snoc (k : Nat) : ∀ x, Bu.Sn (k + 1) x = Bu.S (Bu.Sn k x) := by
  intro x
  rw [Bu.Sn_add]; rfl

theorem wrap_u32 (n : Nat) (h : n < 2 ^ 32) : IntKind.u32.wrap (n : Int) = (n : Int) := by
  simp [IntKind.wrap, IntKind.bits, IntKind.signed]
  omega
theorem bits_xor_u32 (a b : Nat) (ha : a < 2 ^ 32) (hb : b < 2 ^ 32) : bits .xor .u32 (a : Int) (b : Int) = ((a ^^^ b : Nat) : Int) := by
  unfold bits
  have e : ((BitVec.ofInt IntKind.u32.bits (a : Int) ^^^ BitVec.ofInt IntKind.u32.bits (b : Int)).toNat) = a ^^^ b := by
    have h1 : (BitVec.ofInt 32 (a : Int)).toNat = a := by rw [BitVec.ofInt_natCast, BitVec.toNat_ofNat]; exact Nat.mod_eq_of_lt ha
    have h2 : (BitVec.ofInt 32 (b : Int)).toNat = b := by rw [BitVec.ofInt_natCast, BitVec.toNat_ofNat]; exact Nat.mod_eq_of_lt hb
    show (BitVec.ofInt 32 (a : Int) ^^^ BitVec.ofInt 32 (b : Int)).toNat = _
    rw [BitVec.toNat_xor, h1, h2]
  simp only [e]
  exact wrap_u32 _ (Nat.xor_lt_two_pow ha hb)
theorem bits_and_u32_one (a : Nat) (ha : a < 2 ^ 32) : bits .and .u32 (a : Int) 1 = ((a % 2 : Nat) : Int) := by
  unfold bits
  have e : ((BitVec.ofInt IntKind.u32.bits (a : Int) &&& BitVec.ofInt IntKind.u32.bits 1).toNat) = a % 2 := by
    have h1 : (BitVec.ofInt 32 (a : Int)).toNat = a := by rw [BitVec.ofInt_natCast, BitVec.toNat_ofNat]; exact Nat.mod_eq_of_lt ha
    have h2 : (BitVec.ofInt 32 (1 : Int)).toNat = 1 := by decide
    show (BitVec.ofInt 32 (a : Int) &&& BitVec.ofInt 32 1).toNat = _
    rw [BitVec.toNat_and, h1, h2, Nat.and_one_is_mod]
  simp only [e]
  exact wrap_u32 _ (by omega)

set_option maxHeartbeats 1600000 in
set_option maxRecDepth 100000 in
theorem sealOf_any (A : Nat) (v : Value) (l : List Nat) (w : World) (hl : Bu.Byt l) (h : w.ownsRow A 5 1 v l.length (bys l)) :
    Calls Tryz.prog 55 #[v] w fun e w' => e = .returned (.int .u32 (Bu.sl l : Nat)) ∧ w = w' := by
  obtain ⟨a, cap, hv, hn, hm, hc⟩ := owns_shape h
  subst hv
  obtain ⟨len, HLEN⟩ : ∃ len, Hid (l.length = len) := ⟨_, rfl⟩
  rw [HLEN.out] at hc hn
  rw [HLEN.out]
  unfold maxLen at hm
  clear h
  go_enter Tryz.func55, Tryz.ntmps55
  go_wp2
  go_loopw [3, 9] (fun r i wr => ∃ j : Nat, i = .int .i64 j ∧ j ≤ len ∧ r = .int .u32 (Bu.reg (l.take j) Bu.ones : Nat) ∧ Bu.reg (l.take j) Bu.ones < 2 ^ 32 ∧ wr = w) (fun _ i _ => len - (intOf i).toNat)
  case atStart => exact ⟨0, rfl, by omega, rfl, (by show Bu.ones < 2 ^ 32; decide), rfl⟩
  case round =>
    obtain ⟨j, rfl, hj, rfl, hr, rfl⟩ := hrel
    by_cases hlt : j < len
    · obtain ⟨g, rfl, -, hg, hx⟩ := hc (by omega)
      have x1 := hx j _ (bys_get l j (by rw [HLEN.out]; exact hlt))
      have hb : l[j]?.getD 0 < 256 := by
        have hjl : j < l.length := by rw [HLEN.out]; exact hlt
        rw [List.getElem?_eq_getElem hjl]; exact hl _ (List.getElem_mem hjl)
      have HS : Hid (Bu.reg (l.take (j + 1)) Bu.ones = Bu.Sn 8 (Bu.reg (l.take j) Bu.ones ^^^ l[j]?.getD 0)) := reg_snoc l _ j (by rw [HLEN.out]; exact hlt)
      generalize l[j]?.getD 0 = b at *
      generalize Bu.reg (l.take j) Bu.ones = r at *
      clear hx hc
      have hb2 : b < 2 ^ 32 := by omega
      have HX : Hid (bits .xor .u32 (r : Int) (b : Int) = ((r ^^^ b : Nat) : Int)) := bits_xor_u32 r b hr hb2
      have hxl := Nat.xor_lt_two_pow hr hb2
      go_wp2
      rw [HX.out]
      generalize r ^^^ b = y at *
      go_loopw [3, 17] (fun q i wq => ∃ k : Nat, i = .int .i64 k ∧ k ≤ 8 ∧ q = .int .u32 (Bu.Sn k y : Nat) ∧ Bu.Sn k y < 2 ^ 32 ∧ wq = wr) (fun _ i _ => 8 - (intOf i).toNat)
      case atStart => exact ⟨0, rfl, by omega, rfl, hxl, rfl⟩
      case round =>
        obtain ⟨k, rfl, hk, rfl, hs, rfl⟩ := hrel
        by_cases hk8 : k < 8
        · have HK : Hid (Bu.Sn (k + 1) y = Bu.S (Bu.Sn k y)) := Sn_snoc k y
          generalize Bu.Sn k y = z at *
          have HS1 := Bu.S_lt hs
          have ha := bits_and_u32_one z hs
          rcases Nat.mod_two_eq_zero_or_one z with hz | hz
          · have HZ : Hid (Bu.S z = z / 2) := by show Bu.S z = z / 2; unfold Bu.S; rw [if_neg (by omega)]
            rw [hz] at ha
            go_wp2
            go_roundw
            case rel => exact ⟨k + 1, by go_num, by omega, by rw [HK.out, HZ.out]; first | rfl | simp, by rw [HK.out]; exact HS1, by first | exact trivial | rfl⟩
            case measure => simp [intOf]; omega
          · have HZ : Hid (Bu.S z = (z / 2) ^^^ Bu.pw) := by show Bu.S z = (z / 2) ^^^ Bu.pw; unfold Bu.S; rw [if_pos hz]
            rw [hz] at ha
            have HP : Hid (bits .xor .u32 ((z : Int) / 2) 3988292384 = ((z / 2 ^^^ Bu.pw : Nat) : Int)) := by
              have := bits_xor_u32 (z / 2) Bu.pw (by omega) (by decide)
              exact this
            go_wp2
            go_roundw
            case rel => exact ⟨k + 1, by go_num, by omega, by rw [HK.out, HZ.out, ← HP.out]; first | done | rfl | simp, by rw [HK.out]; exact HS1, by first | exact trivial | rfl⟩
            case measure => simp [intOf]; omega
        · obtain rfl : k = 8 := by omega
          have hs2 := hs
          rw [← HS.out] at hs2
          go_wp2
          go_roundw
          case rel => exact ⟨j + 1, by go_num, by omega, by rw [HS.out], hs2, by first | exact trivial | rfl⟩
          case measure => simp [intOf]; omega
    · obtain rfl : j = len := by omega
      have HT : Hid (l.take j = l) := List.take_of_length_le (by rw [HLEN.out]; exact Nat.le_refl _)
      rw [HT.out] at hr
      rw [HT.out]
      have HX : Hid (bits .xor .u32 4294967295 (Bu.reg l Bu.ones : Nat) = ((Bu.sl l : Nat) : Int)) := by
        have := bits_xor_u32 Bu.ones (Bu.reg l Bu.ones) (by decide) hr
        rw [Nat.xor_comm] at this
        exact this
      clear hc
      go_wp2
      go_ret
      exact ⟨by rw [← HX.out]; first | done | rfl, rfl⟩
end Go.Proofs.YtbmaiioecnmopabGreatDoor

/-
  BUNDLES, THE PROGRAM's SIDE (package triage): addNumbers, addText. By the verifier of the loop 'triage'.
-/
namespace Go.Proofs.YtbmaiioecnmopabGreatDoor
open Go.RowKit

theorem Tryz.infoByteB : (Tryz.prog.info? 5).map (fun i => (i.zero, i.size, i.bytes)) = some (some (.int .u8 0), 1, 1) := by kernel_rfl
theorem Tryz.undBytesB : Tryz.prog.underlying 121 = some (.slice 5) := by kernel_rfl
/-- the bytes of a text. -/
def lst (s : ByteArray) : List Nat := s.data.toList.map fun b => b.toNat
theorem lst_len (s : ByteArray) : (lst s).length = s.size := by simp [lst]
theorem byt_lst (s : ByteArray) : Bu.Byt (lst s) := by
  intro b hb
  simp [lst] at hb
  obtain ⟨x, -, rfl⟩ := hb
  exact x.toNat_lt
theorem bys_app (a b : List Nat) : bys (a ++ b) = bys a ++ bys b := by simp [bys]
theorem twos_snoc (l : List Nat) (j : Nat) (h : j < l.length) : Bu.twos (l.take (j + 1)) = Bu.twos (l.take j) ++ Bu.two (l[j]?.getD 0) := by
  unfold Bu.twos
  rw [List.take_add_one, List.flatMap_append, List.getElem?_eq_getElem h]
  simp
/-- what is appended to a row of bytes: the row behind it, and what stays. -/
def Grew (A : Nat) (tv v : Value) (l : List Nat) (w w' : World) : Prop := w'.ownsRow A 5 1 v l.length (bys l) ∧ w.grownBy w' tv.ownBlock ∧ Fresh w tv v
theorem wrap_u8_lo (n : Nat) : IntKind.u8.wrap (n : Int) = ((n % 256 : Nat) : Int) := by
  simp [IntKind.wrap, IntKind.bits, IntKind.signed]
theorem wrap_u8_hi (n : Nat) : IntKind.u8.wrap ((n : Int) / 256) = ((n / 256 % 256 : Nat) : Int) := by
  simp [IntKind.wrap, IntKind.bits, IntKind.signed]

/-- appends one behind the other. -/
theorem fresh_trans {w w1 : World} {v v1 v2 : Value} (hs : w.heap.size ≤ w1.heap.size) (h1 : Fresh w v v1) (h2 : ∀ k, v2.ownBlock = some k → v1.ownBlock = some k ∨ w1.heap.size ≤ k) : Fresh w v v2 := by
  intro k hk
  rcases h2 k hk with h | h
  · exact h1 k h
  · exact Or.inr (by omega)
theorem grew_trans {w w1 w2 w3 : World} {v v1 : Value} (h : w.grownBy w1 v.ownBlock) (h2 : w1.grownBy w2 v1.ownBlock) (h3 : w2.grownBy w3 v1.ownBlock) (hf : ∀ k, v1.ownBlock = some k → v.ownBlock = some k ∨ w.heap.size ≤ k) : w.grownBy w3 v.ownBlock := by
  refine ⟨h3.os.trans (h2.os.trans h.os), h3.tape.trans (h2.tape.trans h.tape), h3.output.trans (h2.output.trans h.output), Nat.le_trans h.size (Nat.le_trans h2.size h3.size), fun k hk hn => ?_⟩
  have hn1 : some k ≠ v1.ownBlock := by
    intro e
    rcases hf k e.symm with h' | h'
    · exact hn h'.symm
    · omega
  have k1 : k < w1.heap.size := Nat.lt_of_lt_of_le hk h.size
  exact (h3.block k (Nat.lt_of_lt_of_le k1 h2.size) hn1).trans ((h2.block k k1 hn1).trans (h.block k hk hn))

set_option maxHeartbeats 1600000 in
set_option maxRecDepth 100000 in
theorem addNumbers_any (A : Nat) (tv nv : Value) (t l : List Nat) (w : World) (hA : A ≤ w.heap.size) (hb : t.length + 2 * l.length ≤ 100000000) (ht : w.ownsRow A 5 1 tv t.length (bys t)) (hl : Rd w l.length nv (ints l))
    (hne : ∀ k o cap, 0 < l.length → nv = .slice (some ⟨k, o, none⟩) l.length cap → tv.ownBlock ≠ some k) :
    Calls Tryz.prog 53 #[tv, nv] w fun e w' => ∃ v, e = .returned v ∧ Grew A tv v (t ++ Bu.twos l) w w' := by
  obtain ⟨i0, hi, hz0, hz1, hz2⟩ := info_parts Tryz.infoByteB
  obtain ⟨a, cap, hv, hn, hm, hc⟩ := hl
  subst hv
  obtain ⟨len, HLEN⟩ : ∃ len, Hid (l.length = len) := ⟨_, rfl⟩
  rw [HLEN.out] at hc hn hb hne
  rw [HLEN.out]
  unfold maxLen at hm
  obtain ⟨a0, c0, hv0, -, -, -⟩ := owns_shape ht
  subst hv0
  have HT : Hid (w.ownsRow A 5 1 (.slice a0 t.length c0) t.length (bys t)) := ht
  have HNE : Hid (∀ k o cap', 0 < len → Value.slice a len cap = .slice (some ⟨k, o, none⟩) len cap' → (Value.slice a0 t.length c0).ownBlock ≠ some k) := hne
  clear ht hne
  go_enter Tryz.func53, Tryz.ntmps53
  go_wp2
  go_loopw [0, 9] (fun v i wr => ∃ j : Nat, i = .int .i64 j ∧ j ≤ len ∧ Grew A (.slice a0 t.length c0) v (t ++ Bu.twos (l.take j)) w wr) (fun _ i _ => len - (intOf i).toNat)
  case atStart => exact ⟨0, rfl, by omega, by simpa [Bu.twos] using HT.out, ⟨rfl, rfl, rfl, Nat.le_refl _, fun _ _ _ => rfl⟩, fun k hk => Or.inl hk⟩
  case round =>
    obtain ⟨j, rfl, hj, hown, hgr, hfr⟩ := hrel
    obtain ⟨a3, cap3, hv3, -, -, -⟩ := owns_shape hown
    subst hv3
    by_cases hlt : j < len
    · obtain ⟨g, o, rfl, hg, hx⟩ := hc (by omega)
      have x1 := hgr.cell (hx j _ (ints_get l j (by rw [HLEN.out]; exact hlt))) (by intro e; exact HNE.out g o cap (by omega) rfl e.symm)
      have HS : Hid (t ++ Bu.twos (l.take (j + 1)) = (t ++ Bu.twos (l.take j)) ++ Bu.two (l[j]?.getD 0)) := by
        show t ++ Bu.twos (l.take (j + 1)) = (t ++ Bu.twos (l.take j)) ++ Bu.two (l[j]?.getD 0)
        rw [twos_snoc l j (by rw [HLEN.out]; exact hlt), List.append_assoc]
      have hlj : (t ++ Bu.twos (l.take j)).length ≤ 100000000 := by rw [List.length_append, Bu.twos_len, List.length_take]; omega
      generalize l[j]?.getD 0 = x at *
      generalize t ++ Bu.twos (l.take j) = R at *
      clear hx hc
      go_wp2_with (at_builtin; (refine wpList_append_fresh rfl _ _ 121 rfl A 5 i0 (.int .u8 0) 1 1 Tryz.undBytesB hi hz0 hz1 hz2 rfl (by decide) _ _ _ rfl (hown.alloc _) ⟨wr.heap.size, 0, none⟩ 2 2 [.int .u8 ((x : Int) % 256), .int .u8 ((x : Int) / 256 % 256)] rfl rfl ?c1 ?c2 ?c3 ?c4 ?c5 ?_))
      case c1 => exact news2 _ _ _ _
      case c2 => exact ones2 _ _ _
      case c3 => unfold maxLen; omega
      case c4 => omega
      case c5 => have := hgr.size; simp; omega
      · intro v' w1 hown' hgrow hfr'
        have HG : Hid (Grew A (.slice a0 t.length c0) v' (t ++ Bu.twos (l.take (j + 1))) w w1) := by
          refine ⟨?_, ?_, ?_⟩
          · rw [HS.out]
            have e : bys (R ++ Bu.two x) = bys R ++ [.int .u8 ((x : Int) % 256), .int .u8 ((x : Int) / 256 % 256)] := by rw [bys_app]; rfl
            rw [e, List.length_append]
            exact hown'
          · exact grew_trans hgr (World.grownBy_alloc _ _ _) hgrow hfr
          · exact fresh_trans hgr.size hfr (fun k hk => (hfr' k hk).imp id (fun h => by simp at h; omega))
        clear hown' hgrow hfr' hown hgr hfr
        go_wp2
        go_roundw
        case rel => exact ⟨j + 1, by go_num, by omega, HG.out⟩
        case measure => simp [intOf]; omega
    · obtain rfl : j = len := by omega
      have HG : Hid (Grew A (.slice a0 t.length c0) (.slice a3 (t ++ Bu.twos (l.take j)).length cap3) (t ++ Bu.twos l) w wr) := by
        rw [List.take_of_length_le (by rw [HLEN.out]; exact Nat.le_refl _)] at hown hfr ⊢
        exact ⟨hown, hgr, hfr⟩
      clear hown hgr hfr hc
      go_wp2
      go_ret
      exact ⟨_, rfl, HG.out⟩
end Go.Proofs.YtbmaiioecnmopabGreatDoor
