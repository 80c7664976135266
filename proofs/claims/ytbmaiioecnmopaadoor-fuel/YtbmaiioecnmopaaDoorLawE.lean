/-
  THE LAW Fuel: good, rising, within. By the verifier of the loop 'triage'.
-/
import Derived.Test.YtbmaiioecnmopaaDoorJ05
import Derived.Test.YtbmaiioecnmopaaDoorJ30
import Derived.Test.YtbmaiioecnmopaaDoorJ28
import Derived.Test.YtbmaiioecnmopaaDoorJ29
namespace Go.Proofs.YtbmaiioecnmopaaDoor
open Go.RowKit

theorem ownsB {w w' : World} {base : Nat} {e : TypeId} {size : Nat} {v : Value} {n : Nat} {xs : List Value} (h : w.ownsRow base e size v n xs) (hb : Below w.heap.size w w') : w'.ownsRow base e size v n xs :=
  World.ownsRow.kept h (grown_of_below hb) (by rcases hx : v.ownBlock with _ | x; exact Or.inl rfl; exact Or.inr (by simp))
/-- eight cells of a block. -/
theorem cellsB {w : World} {b : Nat} {v0 v1 v2 v3 v4 v5 v6 v7 : Value} {t : TypeId} (h : w.heap[b]? = some (.cells #[v0, v1, v2, v3, v4, v5, v6, v7] t (0, 0))) :
    w.cell? ⟨b, 0, none⟩ = some v0 ∧ w.cell? ⟨b, 1, none⟩ = some v1 ∧ w.cell? ⟨b, 2, none⟩ = some v2 ∧ w.cell? ⟨b, 3, none⟩ = some v3 ∧ w.cell? ⟨b, 4, none⟩ = some v4 ∧ w.cell? ⟨b, 5, none⟩ = some v5 ∧ w.cell? ⟨b, 6, none⟩ = some v6 ∧ w.cell? ⟨b, 7, none⟩ = some v7 :=
  ⟨cell_of_heap h rfl, cell_of_heap h rfl, cell_of_heap h rfl, cell_of_heap h rfl, cell_of_heap h rfl, cell_of_heap h rfl, cell_of_heap h rfl, cell_of_heap h rfl⟩
set_option maxHeartbeats 3200000 in
set_option maxRecDepth 100000 in
theorem rising_any (A : Nat) (a : Value) (l : List Nat) (w : World) (ha : w.ownsRow A 3 1 a l.length (ints l)) (hr : ∀ i, 1 ≤ i → i < l.length → l[i - 1]?.getD 0 < l[i]?.getD 0) :
    Calls Tryd.prog 21 #[a] w fun e w' => e = .returned (.bool true) ∧ Below w.heap.size w w' := by
  obtain ⟨a1, cap1, hv1, hn1, hm1, hc1⟩ := owns_shape ha
  subst hv1
  have hl : l.length ≤ maxLen := by omega
  unfold maxLen at hl
  obtain ⟨len, HLEN⟩ : ∃ len, Hid (l.length = len) := ⟨_, rfl⟩
  have HR : Hid (∀ i, 1 ≤ i → i < len → l[i - 1]?.getD 0 < l[i]?.getD 0) := by rw [← HLEN.out]; exact hr
  rw [HLEN.out] at hc1 hl ⊢
  clear ha hn1 hm1 hr
  go_enter Tryd.func21, Tryd.ntmps21
  go_wp2
  go_loopw [3] (fun i wr => ∃ j : Nat, i = .int .i64 ((j : Int) + 1) ∧ j ≤ len ∧ Below w.heap.size w wr) (fun i _ => len + 1 - (intOf i).toNat)
  case atStart => exact ⟨0, rfl, by omega, Below.refl _ _⟩
  case round =>
    obtain ⟨j, rfl, hj, hB⟩ := hrel
    by_cases hlt : j + 1 < len
    · obtain ⟨g1, rfl, -, hg1, hx1⟩ := hc1 (by omega)
      have x0 := (hB.cell (p := ⟨g1, j, none⟩) hg1).trans (hx1 j _ (ints_get l j (by rw [HLEN.out]; omega)))
      have x1 := (hB.cell (p := ⟨g1, j + 1, none⟩) hg1).trans (hx1 (j + 1) _ (ints_get l (j + 1) (by rw [HLEN.out]; omega)))
      have hlt2 := HR.out (j + 1) (by omega) hlt
      rw [Nat.add_sub_cancel] at hlt2
      generalize l[j]?.getD 0 = y at *
      generalize l[j + 1]?.getD 0 = x at *
      have HB : Hid _ := hB
      have hi1 : (j : Int) + 1 - 1 = (j : Int) := by omega
      have hle : ¬ (x : Int) ≤ (y : Int) := by omega
      clear hc1 hx1 hB
      go_wp2
      go_quiet (fail)
      go_wp2
      go_roundw
      case rel => exact ⟨j + 1, by go_num, by omega, by first | exact HB.out | exact below_drewN _ HB.out⟩
      case measure => simp [intOf]; omega
    · have HB : Hid _ := hB
      have hge : ¬ (j : Int) + 1 < (len : Int) := by omega
      clear hc1 hB
      go_wp2
      go_ret
      exact ⟨rfl, HB.out⟩

set_option maxHeartbeats 3200000 in
set_option maxRecDepth 100000 in
theorem within_any (A B : Nat) (a b : Value) (l m : List Nat) (w : World) (ha : w.ownsRow A 3 1 a l.length (ints l)) (hb : w.ownsRow B 3 1 b m.length (ints m)) (hs : ∀ x, x ∈ l → x ∈ m) :
    Calls Tryd.prog 22 #[a, b] w fun e w' => e = .returned (.bool true) ∧ Below w.heap.size w w' := by
  obtain ⟨a1, cap1, hv1, hn1, hm1, hc1⟩ := owns_shape ha
  obtain ⟨a2, cap2, hv2, hn2, hm2, hc2⟩ := owns_shape hb
  subst hv1 hv2
  have hl : l.length ≤ maxLen := by omega
  have hl2 : m.length ≤ maxLen := by omega
  unfold maxLen at hl hl2
  obtain ⟨len, HLEN⟩ : ∃ len, Hid (l.length = len) := ⟨_, rfl⟩
  obtain ⟨lem, HLEM⟩ : ∃ lem, Hid (m.length = lem) := ⟨_, rfl⟩
  rw [HLEN.out] at hc1 hl ⊢
  rw [HLEM.out] at hc2 hl2 ⊢
  have HS : Hid (∀ x, x ∈ l → x ∈ m) := hs
  clear ha hn1 hm1 hb hn2 hm2 hs
  go_enter Tryd.func22, Tryd.ntmps22
  go_wp2
  go_loopw [5] (fun i wr => ∃ j : Nat, i = .int .i64 j ∧ j ≤ len ∧ Below w.heap.size w wr) (fun i _ => len - (intOf i).toNat)
  case atStart => exact ⟨0, rfl, by omega, Below.refl _ _⟩
  case round =>
    obtain ⟨j, rfl, hj, hB⟩ := hrel
    by_cases hlt : j < len
    · obtain ⟨g1, rfl, -, hg1, hx1⟩ := hc1 (by omega)
      have x0 := hx1 j _ (ints_get l j (by rw [HLEN.out]; omega))
      have hmem : l[j]?.getD 0 ∈ m := HS.out _ (by rw [List.getElem?_eq_getElem (by rw [HLEN.out]; omega)]; simp)
      generalize l[j]?.getD 0 = x at *
      obtain ⟨q, hq, hqx⟩ := List.getElem_of_mem hmem
      have hqx : m[q]?.getD 0 = x := by rw [List.getElem?_eq_getElem hq]; exact hqx
      rw [HLEM.out] at hq
      obtain ⟨g2, rfl, -, hg2, hx2⟩ := hc2 (by omega)
      have HX : Hid (∀ i, i < lem → w.cell? ⟨g2, i, none⟩ = some (.int .i64 (m[i]?.getD 0 : Nat))) := fun i hi => hx2 i _ (ints_get m i (by rw [HLEM.out]; exact hi))
      have HB : Hid _ := hB
      clear hc1 hx1 hc2 hx2 hB hmem
      go_wp2
      go_loopw [6, 7] (fun d i wq => ∃ (k : Nat) (t : Bool), i = .int .i64 k ∧ d = .bool t ∧ k ≤ lem ∧ (q < k → t = true) ∧ Below w.heap.size w wq) (fun _ i _ => lem - (intOf i).toNat)
      case atStart => exact ⟨0, false, rfl, rfl, by omega, by omega, HB.out⟩
      case round =>
        obtain ⟨k, t, rfl, rfl, hk, ht, hBq⟩ := hrel
        have x1 := (hBq.cell (p := ⟨g1, j, none⟩) hg1).trans x0
        have HBQ : Hid _ := hBq
        by_cases hlk : k < lem
        · have y1 := (hBq.cell (p := ⟨g2, k, none⟩) hg2).trans (HX.out k hlk)
          have HQ : Hid (k = q → m[k]?.getD 0 = x) := fun e => by rw [e]; exact hqx
          clear hBq x0 hqx
          generalize m[k]?.getD 0 = y at *
          by_cases hxy : y = x
          · have hb1 : ((y : Int) == (x : Int)) = true := by rw [hxy]; simp
            go_wp2
            go_quiet (fail)
            go_wp2
            go_roundw
            case rel => exact ⟨k + 1, true, by go_num, rfl, by omega, fun _ => rfl, by first | exact HBQ.out | exact below_drewN _ HBQ.out⟩
            case measure => simp [intOf]; omega
          · have hb1 : ((y : Int) == (x : Int)) = false := by rw [beq_eq_false_iff_ne]; omega
            go_wp2
            go_quiet (fail)
            go_wp2
            go_roundw
            case rel => exact ⟨k + 1, t, by go_num, rfl, by omega, fun h => ht (by rcases Nat.lt_or_ge q k with h1 | h1; exact h1; exact absurd (HQ.out (by omega)) hxy), by first | exact HBQ.out | exact below_drewN _ HBQ.out⟩
            case measure => simp [intOf]; omega
        · have htt := ht (by omega)
          subst htt
          clear hBq x0 x1 ht
          go_wp2
          go_roundw
          case rel => exact ⟨j + 1, by go_num, by omega, by first | exact HBQ.out | exact below_drewN _ HBQ.out⟩
          case measure => simp [intOf]; omega
    · have HB : Hid _ := hB
      have hge : ¬ (j : Int) < (len : Int) := by omega
      clear hc1 hc2 hB
      go_wp2
      go_ret
      exact ⟨rfl, HB.out⟩
end Go.Proofs.YtbmaiioecnmopaaDoor
