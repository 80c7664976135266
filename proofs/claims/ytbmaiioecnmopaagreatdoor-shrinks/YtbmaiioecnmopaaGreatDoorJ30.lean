/-
  THE DOCUMENT's SIDE (package triageref): asked, hits. By the verifier of the loop 'triage'.
-/
import Derived.Test.YtbmaiioecnmopaaGreatDoorJ29
import Derived.Test.YtbmaiioecnmopaaGreatDoorJ28
namespace Go.Proofs.YtbmaiioecnmopaaGreatDoor
open Go.RowKit

/-- a list of inputs, as it lies in memory. -/
def Ins (L : List ByteArray) (v : Value) (w : World) : Prop :=
  ∃ a cap, v = .slice a L.length cap ∧ L.length ≤ cap ∧ cap ≤ maxLen ∧ (0 < L.length → ∃ g o, a = some ⟨g, o, none⟩ ∧ g < w.heap.size ∧ ∀ i, i < L.length → w.cell? ⟨g, o + i, none⟩ = some (.string (L[i]?.getD ByteArray.empty))) ∧ ∀ s ∈ L, s.size ≤ maxLen
theorem Ins.below {L : List ByteArray} {v : Value} {w w' : World} (h : Ins L v w) (hb : Below w.heap.size w w') : Ins L v w' := by
  obtain ⟨a, cap, h1, h2, h3, h4, h5⟩ := h
  refine ⟨a, cap, h1, h2, h3, fun h0 => ?_, h5⟩
  obtain ⟨g, o, e, hg, hc⟩ := h4 h0
  exact ⟨g, o, e, Nat.lt_of_lt_of_le hg hb.size, fun i hi => (hb.cell (p := ⟨g, o + i, none⟩) hg).trans (hc i hi)⟩
theorem Ins.getsz {L : List ByteArray} {v : Value} {w : World} (h : Ins L v w) (i : Nat) : (L[i]?.getD ByteArray.empty).size ≤ maxLen := by
  obtain ⟨a, cap, h1, h2, h3, h4, h5⟩ := h
  by_cases hi : i < L.length
  · rw [List.getElem?_eq_getElem hi]; exact h5 _ (List.getElem_mem hi)
  · rw [List.getElem?_eq_none (by omega)]; exact Nat.zero_le _
/-- a list of one input, just laid. -/
theorem ins_one (inp : ByteArray) (w : World) (t : TypeId) (h : inp.size ≤ maxLen) : Ins [inp] (.slice (some ⟨w.heap.size, 0, none⟩) 1 1) (w.alloc (.cells #[.string inp] t)) := by
  refine ⟨_, 1, rfl, by simp, by unfold maxLen; omega, fun _ => ⟨w.heap.size, 0, rfl, by simp, ?_⟩, by simpa using h⟩
  intro i hi
  obtain rfl : i = 0 := by simp at hi; omega
  exact rcell_of (rheap_new _ _) rfl

set_option maxHeartbeats 1600000 in
theorem asked_any (s : ByteArray) (fuel depth : Int) (L : List ByteArray) (v : Value) (w : World) (hI : Ins L v w) :
    Calls Tryz.prog 29 #[.string s, .int .i64 fuel, .int .i64 depth, v] w fun e w' => e = .returned (.tuple #[.int .i64 (askP s fuel depth L).1, .int .i64 (askP s fuel depth L).2]) ∧ Below w.heap.size w w' := by
  have HI : Hid (Ins L v w) := hI
  obtain ⟨a, cap, rfl, hcap, hmax, hcell, hsz⟩ := hI
  unfold maxLen at hmax
  obtain ⟨len, HLEN⟩ : ∃ len, Hid (L.length = len) := ⟨_, rfl⟩
  rw [HLEN.out] at hcap hcell ⊢
  clear hsz
  obtain ⟨A, HA⟩ : ∃ A, Hid (askP s fuel depth L = A) := ⟨_, rfl⟩
  rw [HA.out]
  go_enter Tryz.func29, Tryz.ntmps29
  go_wp2_with fail
  refine (check_any s _).mono ?_
  rintro e w1 ⟨rfl, hb1⟩
  have HB : Hid (Below w.heap.size w w1) := hb1
  have hcell1 : 0 < len → ∃ g o, a = some ⟨g, o, none⟩ ∧ g < w1.heap.size ∧ ∀ i, i < len → w1.cell? ⟨g, o + i, none⟩ = some (.string (L[i]?.getD ByteArray.empty)) := by
    intro h0
    obtain ⟨g, o, e, hg, hc⟩ := hcell h0
    exact ⟨g, o, e, Nat.lt_of_lt_of_le hg hb1.size, fun i hi => (hb1.cell (p := ⟨g, o + i, none⟩) hg).trans (hc i hi)⟩
  clear hb1 hcell
  by_cases h : (Im.chk s).1 = 0
  · have hcz := chk_zero s h
    rw [hcz]
    by_cases hn : badN fuel depth len
    · have HE : Hid (A = (6, 0)) := HA.out.symm.trans (askP_arg h (by rw [HLEN.out]; exact hn))
      clear hcell1 h hcz
      unfold badN at hn
      by_cases h1 : fuel < 0
      · go_wp2
        go_ret2
        exact ⟨by rw [HE.out]; first | done | rfl, HB.out⟩
      · by_cases h2 : 2000 < fuel
        · go_wp2
          go_ret2
          exact ⟨by rw [HE.out]; first | done | rfl, HB.out⟩
        · by_cases h3 : depth < 0
          · go_wp2
            go_ret2
            exact ⟨by rw [HE.out]; first | done | rfl, HB.out⟩
          · by_cases h4 : 6 < depth
            · go_wp2
              go_ret2
              exact ⟨by rw [HE.out]; first | done | rfl, HB.out⟩
            · have h5 : 12 < len := by omega
              go_wp2
              go_ret2
              exact ⟨by rw [HE.out]; first | done | rfl, HB.out⟩
    · have HLN : Hid (∀ i : Nat, lng L 0 = some i → A = (1, (i : Int))) := fun i hi => HA.out.symm.trans (askP_lng h (by rw [HLEN.out]; exact hn) hi)
      have HOK : Hid (lng L 0 = none → A = (0, 0)) := fun hi => HA.out.symm.trans (askP_ok h (by rw [HLEN.out]; exact hn) hi)
      clear h hcz
      unfold badN at hn
      have h1 : ¬ fuel < 0 := by omega
      have h2 : ¬ 2000 < fuel := by omega
      have h3 : ¬ depth < 0 := by omega
      have h4 : ¬ 6 < depth := by omega
      have h5 : ¬ 12 < len := by omega
      clear hn
      go_wp2
      go_loopw [12] (fun i wr => ∃ j : Nat, i = .int .i64 j ∧ j ≤ len ∧ lng L 0 = lng (L.drop j) j ∧ wr = w1) (fun i _ => len - (intOf i).toNat)
      case atStart => exact ⟨0, rfl, by omega, by simp, rfl⟩
      case round =>
        obtain ⟨j, rfl, hj, hL, rfl⟩ := hrel
        by_cases hlt : j < len
        · obtain ⟨g, o, rfl, hg, hc⟩ := hcell1 (by omega)
          have hcj := hc j hlt
          have hsj := HI.out.getsz j
          have HS := lng_step L j (by rw [HLEN.out]; exact hlt)
          rw [HS] at hL
          generalize L[j]?.getD ByteArray.empty = x at *
          unfold maxLen at hsj
          by_cases hx : 24 < x.size
          · rw [if_pos hx] at hL
            have HE : Hid (A = (1, (j : Int))) := HLN.out j hL
            clear hL HS hc hcell1
            go_wp2
            go_ret2
            exact ⟨by rw [HE.out]; first | done | rfl, HB.out⟩
          · rw [if_neg hx] at hL
            have HE : Hid (lng L 0 = lng (L.drop (j + 1)) (j + 1)) := hL
            clear hL HS hc hcell1
            go_wp2
            go_roundw
            case rel => exact ⟨j + 1, by go_num, by omega, HE.out, by first | exact trivial | exact rfl⟩
            case measure => simp [intOf]; omega
        · obtain rfl : j = len := by omega
          have HE : Hid (A = (0, 0)) := HOK.out (hL.trans (lng_end L _ (by rw [HLEN.out]; exact Nat.le_refl _)))
          clear hL hcell1
          go_wp2
          go_ret2
          exact ⟨by rw [HE.out]; first | done | rfl, HB.out⟩
  · have HE : Hid (A = ((Im.chk s).1, (Im.chk s).2)) := HA.out.symm.trans (askP_chk h)
    clear hcell1
    have hb : ((Im.chk s).1 == 0) = false := by simpa using h
    generalize (Im.chk s).1 = c at *
    generalize (Im.chk s).2 = p at *
    go_wp2
    go_ret2
    exact ⟨by rw [HE.out]; first | done | rfl, HB.out⟩

theorem rep_sts {s inp : ByteArray} {fuel : Nat} (hc : Im.chk s = (0, 0)) (hi : inp.size ≤ 24) (hf : fuel ≤ 2000) : (rep s fuel inp).sts.length ≤ 8 := by
  have := outP_stsB s inp fuel
  rw [outP_rep hc hi hf] at this
  exact this

/-- Play, with the report under its name. -/
theorem play_rep (s inp : ByteArray) (fuel : Nat) (w : World) (hc : Im.chk s = (0, 0)) (hi : inp.size ≤ 24) (hf : fuel ≤ 2000) :
    Calls Tryz.prog 31 #[.string s, .string inp, .int .i64 fuel] w fun e w' => ∃ v28 v29, e = .returned (.agg #[.int .i64 ((rep s fuel inp).en : Nat), .int .i64 ((rep s fuel inp).fa : Nat), .int .i64 ((rep s fuel inp).pa : Nat), .int .i64 ((rep s fuel inp).kd : Nat), v28, v29, .int .i64 ((rep s fuel inp).k : Nat), .int .i64 (rep s fuel inp).top]) ∧
      w'.ownsRow w.heap.size 86 2 v28 (rep s fuel inp).sts.length (prs (rep s fuel inp).sts) ∧ w'.ownsRow w.heap.size 3 1 v29 (rep s fuel inp).eds.length (ints (rep s fuel inp).eds) ∧ Below w.heap.size w w' :=
  play_any s inp fuel w hc hi hf


end Go.Proofs.YtbmaiioecnmopaaGreatDoor
