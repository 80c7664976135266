/-
  THE PROGRAM's SIDE (package triage): layOut. By the verifier of the loop 'triage'.
-/
import Derived.Test.YthljaemhgkepoaaDoorRefE
namespace Go.Proofs.YthljaemhgkepoaaDoor
open Go.RowKit

theorem heap_new (w : World) (o : Obj) : (w.alloc o).heap[w.heap.size]? = some o := by
  show (w.heap.push o)[w.heap.size]? = some o
  simp
theorem str_empty (s : ByteArray) (h : s.size = 0) : s.toList.isEmpty = true := by
  rw [ByteArray.toList_eq, List.isEmpty_iff]
  have : s.data.toList.length = 0 := by simpa using h
  exact List.length_eq_zero_iff.1 this
theorem str_some (s : ByteArray) (h : 0 < s.size) : s.toList.isEmpty = false := by
  rw [ByteArray.toList_eq, Bool.eq_false_iff]
  intro hh
  rw [List.isEmpty_iff] at hh
  have : s.data.toList.length = 0 := by rw [hh]; rfl
  have h2 : s.data.toList.length = s.size := by simp
  omega
/-- an error that is a flaw, in memory of its own. -/
def Flawed (B : Nat) (w : World) (er : Value) (c p : Int) : Prop :=
  ∃ b, er = .iface 32 (.pointer (some ⟨b, 0, none⟩)) ∧ B ≤ b ∧ w.heap[b]? = some (.cells #[.int .i64 c, .int .i64 p] 37 (0, 0))
/-- the functions' first places. -/
def stL (s : ByteArray) : Nat → List Nat
  | 0 => []
  | j + 1 => stL s j ++ [Im.st s j]
theorem stL_len (s : ByteArray) (j : Nat) : (stL s j).length = j := by
  induction j with
  | zero => rfl
  | succ j ih => simp [stL, ih]

theorem flawed_new (w : World) (c p : Int) : Flawed w.heap.size (w.alloc (.cells #[.int .i64 c, .int .i64 p] 37)) (.iface 32 (.pointer (some ⟨w.heap.size, 0, none⟩))) c p :=
  ⟨w.heap.size, rfl, Nat.le_refl _, heap_new _ _⟩

theorem flawed_in {B : Nat} {w : World} (h : B ≤ w.heap.size) (c p : Int) : Flawed B (w.alloc (.cells #[.int .i64 c, .int .i64 p] 37)) (.iface 32 (.pointer (some ⟨w.heap.size, 0, none⟩))) c p :=
  ⟨w.heap.size, rfl, h, heap_new _ _⟩

set_option maxHeartbeats 400000 in
theorem layOut_long (s : ByteArray) (w : World) (hs : 200 < s.size) :
    Calls Tryd.prog 37 #[.string s] w fun e w' => ∃ er, e = .returned (.tuple #[.slice none 0 0, er]) ∧ Flawed w.heap.size w' er 1 0 ∧ Below w.heap.size w w' := by
  go_enter Tryd.func37, Tryd.ntmps37
  go_wp2
  go_ret2
  exact ⟨_, rfl, flawed_new w 1 0, (Below.refl _ _).alloc (Nat.le_refl _) _⟩

set_option maxHeartbeats 400000 in
theorem layOut_zero (s : ByteArray) (w : World) (hs : s.size ≤ 200) (h : s.size = 0 ∨ Im.bt s 0 < 1 ∨ 6 < Im.bt s 0) :
    Calls Tryd.prog 37 #[.string s] w fun e w' => ∃ er, e = .returned (.tuple #[.slice none 0 0, er]) ∧ Flawed w.heap.size w' er 2 0 ∧ Below w.heap.size w w' := by
  by_cases h0 : s.size = 0
  · have he := str_empty s h0
    go_enter Tryd.func37, Tryd.ntmps37
    go_wp2
    go_ret2
    exact ⟨_, rfl, flawed_new w 2 0, (Below.refl _ _).alloc (Nat.le_refl _) _⟩
  · have hp : 0 < s.size := by omega
    have he := str_some s hp
    have hn := Im.bt_eq s 0 hp
    have hn256 := Im.bt_lt s 0
    generalize Im.bt s 0 = n at *
    clear h0
    by_cases h1 : n < 1
    · clear h
      go_enter Tryd.func37, Tryd.ntmps37
      go_wp2
      go_ret2
      exact ⟨_, rfl, flawed_new w 2 0, (Below.refl _ _).alloc (Nat.le_refl _) _⟩
    · have h2 : 6 < n := by omega
      clear h
      go_enter Tryd.func37, Tryd.ntmps37
      go_wp2
      go_ret2
      exact ⟨_, rfl, flawed_new w 2 0, (Below.refl _ _).alloc (Nat.le_refl _) _⟩

theorem owns_one (w : World) (k : Nat) : (w.alloc (.cells #[.int .i64 (k : Int)] 3)).ownsRow w.heap.size 3 1 (.slice (some ⟨w.heap.size, 0, none⟩) 1 1) 1 (ints [k]) :=
  ⟨rfl, Or.inr ⟨w.heap.size, 1, #[.int .i64 (k : Int)], rfl, Nat.le_refl _, heap_new _ _, Nat.le_refl _, by decide, rfl, rfl⟩⟩
theorem int_bne {a b : Nat} (h : a ≠ b) : ((a : Int) != (b : Int)) = true := by rw [bne_iff_ne]; omega
theorem int_bne_self (a : Nat) : ((a : Int) != (a : Int)) = false := by simp

/-- how layOut ends (of a text of at most 200 bytes). -/
def LayPost (s : ByteArray) (n : Nat) (w w' : World) (e : Ending) : Prop :=
  (∃ p er, Im.hd s = some p ∧ e = .returned (.tuple #[.slice none 0 0, er]) ∧ Flawed w.heap.size w' er 2 p ∧ Below w.heap.size w w') ∨
  (∃ v, Im.hd s = none ∧ e = .returned (.tuple #[v, .nilIface]) ∧ w'.ownsRow w.heap.size 3 1 v (n + 1) (ints (stL s (n + 1))) ∧ Below w.heap.size w w')

set_option maxHeartbeats 1600000 in
set_option maxRecDepth 100000 in
theorem layOut_any (s : ByteArray) (w : World) (hs : s.size ≤ 200) (hgood : ¬ (s.size = 0 ∨ Im.bt s 0 < 1 ∨ 6 < Im.bt s 0)) :
    Calls Tryd.prog 37 #[.string s] w fun e w' => LayPost s (Im.bt s 0) w w' e := by
  obtain ⟨i0, hi, hz0, hz1, hz2⟩ := info_parts Tryd.infoInt
  have hp : 0 < s.size := by omega
  have he := str_some s hp
  have HL := Im.hd_len s hgood
  have HE := Im.hd_end s hgood
  have hst0 : Im.st s 0 = 1 + Im.bt s 0 := rfl
  have hn := Im.bt_eq s 0 hp
  generalize Im.bt s 0 = n at *
  have hn1 : 1 ≤ n := by omega
  have hn6 : n ≤ 6 := by omega
  have HH : Hid ((∀ i, Im.hscan s n 1 = some i → Im.hd s = some i) ∧ (Im.hscan s n 1 = none → Im.hd s = if s.size < Im.st s n then some s.size else if Im.st s n < s.size then some (Im.st s n) else none)) := ⟨HL, HE⟩
  have HS0 : Hid (1 + n = Im.st s 0) := hst0.symm
  clear HL HE hgood hst0
  go_enter Tryd.func37, Tryd.ntmps37
  go_wp2
  go_loopw [5, 6, 7] (fun end_ v i wr => ∃ (j a : Nat), i = .int .i64 j ∧ end_ = .int .i64 a ∧ 1 ≤ j ∧ j ≤ n + 1 ∧ a ≤ 60 * j ∧ j ≤ s.size ∧ Hid (a = Im.st s (j - 1)) ∧ Hid (Im.hscan s n 1 = Im.hscan s (n + 1 - j) j) ∧
      wr.ownsRow w.heap.size 3 1 v j (ints (stL s j)) ∧ Below w.heap.size w wr)
    (fun _ _ i _ => n + 1 - (intOf i).toNat)
  case atStart =>
    refine ⟨1, 1 + n, rfl, by go_num, by omega, by omega, by omega, by omega, HS0, rfl, ?_, (Below.refl _ _).alloc (Nat.le_refl _) _⟩
    have h := owns_one w (1 + n)
    rw [HS0.out] at h
    have h3 : (1 : Int) + (n : Int) = ((Im.st s 0 : Nat) : Int) := by rw [← HS0.out]; simp
    rw [h3]
    exact h
  case round =>
    obtain ⟨j, a, rfl, rfl, hj1, hjn, ha, hjs0, HA, HR, hown, hbl⟩ := hrel
    by_cases hle : j ≤ n
    · by_cases hjs : j < s.size
      · have hjne : ((j : Int) == (s.size : Int)) = false := by rw [beq_eq_false_iff_ne]; omega
        have hej := Im.bt_eq s j hjs
        have hok0 := Im.okLen_not s j
        have hok1 := Im.okLen_yes s j hjs
        have hstj := Im.st_pred s j hj1
        have hm256 := Im.bt_lt s j
        generalize Im.bt s j = m at *
        by_cases hbad : m < 1 ∨ 60 < m
        · have HB : Hid (Im.hd s = some j) := HH.out.1 j (by rw [HR.out]; exact Im.hscan_bad s n j hle (hok0 (by omega)))
          clear hok0 hok1 hstj
          rcases hbad with hbad | hbad
          · go_wp2
            go_ret2
            exact Or.inl ⟨j, _, HB.out, rfl, flawed_in hbl.size 2 j, hbl.alloc hbl.size _⟩
          · have hm1 : ¬ m < 1 := by omega
            go_wp2
            go_ret2
            exact Or.inl ⟨j, _, HB.out, rfl, flawed_in hbl.size 2 j, hbl.alloc hbl.size _⟩
        · have hm1 : 1 ≤ m := by omega
          have hm2 : m ≤ 60 := by omega
          have HR' : Hid (Im.hscan s n 1 = Im.hscan s (n + 1 - (j + 1)) (j + 1)) := by
            show Im.hscan s n 1 = _
            rw [HR.out]; exact Im.hscan_good s n j hle (hok1 hm1 hm2)
          have HA' : Hid (a + m = Im.st s j) := by show a + m = _; rw [hstj, HA.out]
          clear hok0 hok1 hstj hbad
          go_wp2_with (at_builtin; refine wpList_append_own _ rfl _ _ 43 rfl w.heap.size 3 i0 (.int .i64 0) 1 8 Tryd.undInts hi hz0 hz1 hz2 rfl (by decide) _ _ _ rfl (hown.alloc _) ⟨wr.heap.size, 0, none⟩ 1 1 [.int .i64 (a + m : Nat)] rfl rfl ?c1 ?c2 ?c3 ?c4 ?c5 ?_)
          case c1 =>
            intro i u hj
            match i, hj with
            | 0, hj => simp at hj; subst hj; simp [Addr.add]
          case c2 => intro u hu; simp at hu; subst hu; rfl
          case c3 => unfold maxLen; omega
          case c4 => omega
          case c5 => have := hbl.size; simp; omega
          · intro v' w1 hown' hgrow _
            have hb1 := below_app hown hgrow hbl (by have := hbl.size; omega)
            have ho1 : w1.ownsRow w.heap.size 3 1 v' (j + 1) (ints (stL s (j + 1))) := by
              simp only [stL, ints, List.map_append, List.map_cons, List.map_nil]
              rw [← HA'.out]
              simpa using hown'
            clear hown' hgrow hown hbl
            go_wp2
            go_roundw
            case rel => exact ⟨j + 1, a + m, by go_num, by go_num, by omega, by omega, by omega, by omega, HA', HR', ho1, hb1⟩
            case measure => simp [intOf]; omega
      · have hjne : ((j : Int) == (s.size : Int)) = true := by rw [beq_iff_eq]; omega
        have HB : Hid (Im.hd s = some j) := HH.out.1 j (by rw [HR.out]; exact Im.hscan_bad s n j hle (Im.okLen_not s j (by omega)))
        go_wp2
        go_ret2
        exact Or.inl ⟨j, _, HB.out, rfl, flawed_in hbl.size 2 j, hbl.alloc hbl.size _⟩
    · have HB := HH.out.2 (by rw [HR.out]; exact Im.hscan_done s n j (by omega))
      have hj : j - 1 = n := by omega
      have HA2 : Hid (a = Im.st s n) := by rw [← hj]; exact HA
      rw [← HA2.out] at HB
      have HB2 : Hid (Im.hd s = if s.size < a then some s.size else if a < s.size then some a else none) := HB
      clear HB hj
      by_cases h1 : s.size < a
      · have hne := int_bne (a := s.size) (b := a) (by omega)
        have hmin : (if (s.size : Int) < (a : Int) then (s.size : Int) else (a : Int)) = s.size := by rw [if_pos (by omega)]
        go_wp2
        go_ret2
        exact Or.inl ⟨s.size, _, by rw [HB2.out, if_pos h1], rfl, flawed_in hbl.size 2 s.size, hbl.alloc hbl.size _⟩
      · by_cases h2 : a < s.size
        · have hne := int_bne (a := s.size) (b := a) (by omega)
          go_wp2
          go_ret2
          exact Or.inl ⟨a, _, by rw [HB2.out, if_neg h1, if_pos h2], rfl, flawed_in hbl.size 2 a, hbl.alloc hbl.size _⟩
        · have hea : ((s.size : Int) != (a : Int)) = false := by rw [bne_eq_false_iff_eq]; omega
          have HJ : Hid (j = n + 1) := by show j = n + 1; omega
          go_wp2
          go_ret2
          refine Or.inr ⟨_, by rw [HB2.out, if_neg h1, if_neg h2], rfl, ?_, hbl⟩
          rw [← HJ.out]; exact hown

theorem layOut_all (s : ByteArray) (w : World) (hs : s.size ≤ 200) :
    Calls Tryd.prog 37 #[.string s] w fun e w' => LayPost s (Im.bt s 0) w w' e := by
  by_cases h : s.size = 0 ∨ Im.bt s 0 < 1 ∨ 6 < Im.bt s 0
  · refine (layOut_zero s w hs h).mono ?_
    rintro e w' ⟨er, rfl, h1, h2⟩
    exact Or.inl ⟨0, er, Im.hd_zero s h, rfl, h1, h2⟩
  · exact layOut_any s w hs h
end Go.Proofs.YthljaemhgkepoaaDoor
