/-
  THE DOCUMENT's SIDE (package triageref): Funcs. By the verifier of the loop 'triage'.
-/
import Derived.Test.YthljaemhgkepoaaDoorRefB
namespace Go.Proofs.YthljaemhgkepoaaDoor
open Go.RowKit

theorem Tryd.infoFunc : (Tryd.prog.info? 68).map (fun i => (i.zero, i.size, i.bytes)) = some (some (.agg #[.int .i64 0, .int .i64 0]), 2, 16) := by kernel_rfl
theorem Tryd.undFuncs : Tryd.prog.underlying 62 = some (.slice 68) := by kernel_rfl

/-- the cells of the list of the first k functions. -/
def fcells (s : ByteArray) : Nat → List Value
  | 0 => []
  | k + 1 => fcells s k ++ [.int .i64 (Im.st s k : Nat), .int .i64 (Im.st s (k + 1) : Nat)]
theorem fcells_pred (s : ByteArray) (j : Nat) (h : 1 ≤ j) : fcells s (j - 1) ++ [.int .i64 (Im.st s (j - 1) : Nat), .int .i64 (Im.st s j : Nat)] = fcells s j := by
  obtain ⟨k, rfl⟩ : ∃ k, j = k + 1 := ⟨j - 1, by omega⟩
  rfl

theorem int_ne0 {n : Nat} (h : 0 < n) : ((n : Int) == 0) = false := by rw [beq_eq_false_iff_ne]; omega

set_option maxHeartbeats 400000 in
set_option maxRecDepth 100000 in
theorem funcs_zero (s : ByteArray) (w : World) (hs : s.size ≤ 200) (h : s.size = 0 ∨ Im.bt s 0 < 1 ∨ 6 < Im.bt s 0) :
    Calls Tryd.prog 23 #[.string s] w fun e w' => e = .returned (.tuple #[.slice none 0 0, .int .i64 0]) ∧ w = w' := by
  by_cases h0 : s.size = 0
  · have hb : ((s.size : Int) == 0) = true := by simp [h0]
    go_enter Tryd.func23, Tryd.ntmps23
    go_wp2
    go_ret2
    exact ⟨rfl, rfl⟩
  · have hp : 0 < s.size := by omega
    have hb := int_ne0 hp
    have he := Im.bt_eq s 0 hp
    generalize Im.bt s 0 = n at *
    by_cases h1 : n < 1
    · go_enter Tryd.func23, Tryd.ntmps23
      go_wp2
      go_ret2
      exact ⟨rfl, rfl⟩
    · have h2 : 6 < n := by omega
      clear h
      go_enter Tryd.func23, Tryd.ntmps23
      go_wp2
      go_ret2
      exact ⟨rfl, rfl⟩

set_option maxHeartbeats 1600000 in
set_option maxRecDepth 100000 in
theorem funcs_any (s : ByteArray) (w : World) (hs : s.size ≤ 200) (hgood : ¬ (s.size = 0 ∨ Im.bt s 0 < 1 ∨ 6 < Im.bt s 0)) :
    Calls Tryd.prog 23 #[.string s] w fun e w' => ∃ v, e = .returned (.tuple #[v, .int .i64 (place (Im.hd s))]) ∧
      (Im.hd s = none → w'.ownsRow w.heap.size 68 2 v (Im.bt s 0) (fcells s (Im.bt s 0))) ∧ Below w.heap.size w w' := by
  obtain ⟨i0, hi, hz0, hz1, hz2⟩ := info_parts Tryd.infoFunc
  have hp : 0 < s.size := by omega
  have hb := int_ne0 hp
  have HL := Im.hd_len s hgood
  have HE := Im.hd_end s hgood
  have hst0 : Im.st s 0 = 1 + Im.bt s 0 := rfl
  have he := Im.bt_eq s 0 hp
  generalize Im.bt s 0 = n at *
  have hn1 : 1 ≤ n := by omega
  have hn6 : n ≤ 6 := by omega
  have HH : Hid ((∀ i, Im.hscan s n 1 = some i → Im.hd s = some i) ∧ (Im.hscan s n 1 = none → Im.hd s = if s.size < Im.st s n then some s.size else if Im.st s n < s.size then some (Im.st s n) else none)) := ⟨HL, HE⟩
  have HS0 : Hid (1 + n = Im.st s 0) := hst0.symm
  clear HL HE hgood hst0
  go_enter Tryd.func23, Tryd.ntmps23
  go_wp2
  go_loopw [5, 6, 7] (fun at_ v i wr => ∃ (j a : Nat), i = .int .i64 j ∧ at_ = .int .i64 a ∧ 1 ≤ j ∧ j ≤ n + 1 ∧ a ≤ 60 * j ∧ Hid (a = Im.st s (j - 1)) ∧ Hid (Im.hscan s n 1 = Im.hscan s (n + 1 - j) j) ∧
      wr.ownsRow w.heap.size 68 2 v (j - 1) (fcells s (j - 1)) ∧ Below w.heap.size w wr)
    (fun _ _ i _ => n + 1 - (intOf i).toNat)
  case atStart => exact ⟨1, 1 + n, rfl, by go_num, by omega, by omega, by omega, HS0, rfl, World.ownsRow_nil _ _ _ _, Below.refl _ _⟩
  case round =>
    obtain ⟨j, a, rfl, rfl, hj1, hjn, ha, HA, HR, hown, hbl⟩ := hrel
    by_cases hle : j ≤ n
    · by_cases hjs : j < s.size
      · have hej := Im.bt_eq s j hjs
        have hok0 := Im.okLen_not s j
        have hok1 := Im.okLen_yes s j hjs
        have hstj := Im.st_pred s j hj1
        generalize Im.bt s j = m at *
        by_cases hbad : m < 1 ∨ 60 < m
        · have HB : Hid (Im.hd s = some j) := HH.out.1 j (by rw [HR.out]; exact Im.hscan_bad s n j hle (hok0 (by omega)))
          clear hok0 hok1 hstj
          rcases hbad with hbad | hbad
          · go_wp2
            go_ret2
            exact ⟨_, ret_two (by rw [HB.out]; rfl), (fun h => by rw [HB.out] at h; simp at h), hbl⟩
          · have hm1 : ¬ m < 1 := by omega
            go_wp2
            go_ret2
            exact ⟨_, ret_two (by rw [HB.out]; rfl), (fun h => by rw [HB.out] at h; simp at h), hbl⟩
        · have hm1 : 1 ≤ m := by omega
          have hm2 : m ≤ 60 := by omega
          have HR' : Hid (Im.hscan s n 1 = Im.hscan s (n + 1 - (j + 1)) (j + 1)) := by
            show Im.hscan s n 1 = _
            rw [HR.out]; exact Im.hscan_good s n j hle (hok1 hm1 hm2)
          have HA' : Hid (a + m = Im.st s j) := by show a + m = _; rw [hstj, HA.out]
          clear hok0 hok1 hstj hbad
          go_wp2_with (at_builtin; refine wpList_append_own _ rfl _ _ 62 rfl w.heap.size 68 i0 (.agg #[.int .i64 0, .int .i64 0]) 2 16 Tryd.undFuncs hi hz0 hz1 hz2 rfl (by decide) _ _ _ rfl (hown.alloc _) ⟨wr.heap.size, 0, none⟩ 1 1 [.int .i64 a, .int .i64 (a + m : Nat)] rfl rfl ?c1 ?c2 ?c3 ?c4 ?c5 ?_)
          case c1 =>
            intro i u hj
            match i, hj with
            | 0, hj => simp at hj; subst hj; simp [Addr.add]
            | 1, hj => simp at hj; subst hj; simp [Addr.add]
          case c2 => intro u hu; simp at hu; rcases hu with rfl | rfl <;> rfl
          case c3 => unfold maxLen; omega
          case c4 => omega
          case c5 => have := hbl.size; simp; omega
          · intro v' w1 hown' hgrow _
            have hb1 := below_app hown hgrow hbl (by have := hbl.size; omega)
            have ho1 : w1.ownsRow w.heap.size 68 2 v' j (fcells s j) := by
              rw [← fcells_pred s j hj1, ← HA.out, ← HA'.out]
              simpa using hown'
            clear hown' hgrow hown hbl
            go_wp2
            go_roundw
            case rel => exact ⟨j + 1, a + m, by go_num, by go_num, by omega, by omega, by omega, HA', HR', ho1, hb1⟩
            case measure => simp [intOf]; omega
      · have HB : Hid (Im.hd s = some j) := HH.out.1 j (by rw [HR.out]; exact Im.hscan_bad s n j hle (Im.okLen_not s j (by omega)))
        go_wp2
        go_ret2
        exact ⟨_, ret_two (by rw [HB.out]; rfl), (fun h => by rw [HB.out] at h; simp at h), hbl⟩
    · have HB := HH.out.2 (by rw [HR.out]; exact Im.hscan_done s n j (by omega))
      have hj : j - 1 = n := by omega
      have HO : Hid (wr.ownsRow w.heap.size 68 2 u6 n (fcells s n)) := by rw [← hj]; exact hown
      have HA2 : Hid (a = Im.st s n) := by rw [← hj]; exact HA
      rw [← HA2.out] at HB
      have HB2 : Hid (Im.hd s = if s.size < a then some s.size else if a < s.size then some a else none) := HB
      clear HB hj hown
      by_cases h1 : s.size < a
      · go_wp2
        go_ret2
        exact ⟨_, ret_two (by rw [HB2.out, if_pos h1]; rfl), (fun h => by rw [HB2.out, if_pos h1] at h; simp at h), hbl⟩
      · by_cases h2 : a < s.size
        · go_wp2
          go_ret2
          exact ⟨_, ret_two (by rw [HB2.out, if_neg h1, if_pos h2]; rfl), (fun h => by rw [HB2.out, if_neg h1, if_pos h2] at h; simp at h), hbl⟩
        · go_wp2
          go_ret2
          exact ⟨_, ret_two (by rw [HB2.out, if_neg h1, if_neg h2]; rfl), (fun _ => HO.out), hbl⟩
end Go.Proofs.YthljaemhgkepoaaDoor
