/-
  KeyH, ShA, ShB: THESE TEXTS, JOINED. By the verifier of the loop 'triage'.
-/
import Derived.Test.YtbmaiioecnmopaaGreatDoorJ30
import Derived.Test.YtbmaiioecnmopaaGreatDoorJ01
import Derived.Test.YtbmaiioecnmopaaGreatDoorJ29
import Derived.BigQuiet
import Derived.Deep.RegionHeld3
/-
  THE DOCUMENT's SIDE (package triageref): hits. By the verifier of the loop 'triage'.
-/
namespace Go.Proofs.YtbmaiioecnmopaaGreatDoor
open Go.RowKit

set_option maxHeartbeats 1600000 in
theorem hits_any (B : Nat) (s inp : ByteArray) (fuel d : Nat) (k : Nat × List (Nat × Nat)) (kv : Value) (w : World) (hc : Im.chk s = (0, 0)) (hi : inp.size ≤ 24) (hf : fuel ≤ 2000) (hd : d ≤ 6) (hk : k.2.length ≤ 100) (hK : KeyV B w k kv) :
    Calls Tryz.prog 33 #[.string s, .int .i64 (fuel : Nat), .int .i64 (d : Nat), .string inp, kv] w fun e w' => e = .returned (.bool (hit s fuel d k inp)) ∧ Below w.heap.size w w' := by
  have HK : Hid (KeyV B w k kv) := hK
  obtain ⟨u, rfl, hu⟩ := hK
  obtain ⟨a1, cap1, hv1, -, -, -⟩ := owns_shape hu
  subst hv1
  clear hu
  have hst := rep_sts (s := s) (inp := inp) (fuel := fuel) hc hi hf
  obtain ⟨hh, HH⟩ : ∃ hh, Hid (hit s fuel d k inp = hh) := ⟨_, rfl⟩
  rw [HH.out]
  have HY : Hid (hh = decide (kyR (rep s fuel inp) d = some k)) := HH.out.symm
  clear HH
  go_enter Tryz.func33, Tryz.ntmps33
  go_wp2_with fail
  refine (play_rep s inp fuel _ hc hi hf).mono ?_
  rintro e w1 ⟨v28, v29, rfl, h28, h29, hb1⟩
  generalize rep s fuel inp = p at *
  have HB : Hid (Below w.heap.size w w1) := below_new hb1
  have HK1 : Hid (KeyV B w1 k (.agg #[.int .i64 (k.1 : Nat), .slice a1 k.2.length cap1])) := HK.out.below HB.out
  have c1 : w1.heap[w.heap.size]? = some (.cells #[.int .i64 (k.1 : Nat), .slice a1 k.2.length cap1] 51 (0, 0)) := (hb1.block _ (by simp)).trans (rheap_new _ _)
  have hz1 : w.heap.size < w1.heap.size := by have := hb1.size; simp at this; omega
  have h28' := owns_base (base' := w.heap.size) h28 (by simp)
  clear HK hb1 h28 h29 hc hi hf
  go_wp2_with fail
  refine (keyOf_any w.heap.size p d v28 v29 _ hd (by omega) h28').mono ?_
  rintro e w2 ⟨hb2, hm⟩
  cases hq : kyR p d with
  | none =>
    rw [hq] at hm
    subst hm
    have HF : Hid (hh = false) := by
      show hh = false
      rw [HY.out, hq]; simp
    have HB2 : Hid (Below w.heap.size w w2) := HB.out.trans (hb2.mono HB.out.size)
    have hz2 : w.heap.size < w2.heap.size := Nat.lt_of_lt_of_le hz1 hb2.size
    clear hb2 HK1 h28' HY c1
    go_wp2
    go_ret
    exact ⟨by rw [HF.out]; first | done | rfl, HB2.out.alloc (Nat.le_of_lt hz2) _⟩
  | some q =>
    rw [hq] at hm
    obtain ⟨v, rfl, hv⟩ := hm
    have HF : Hid (hh = decide (q = k)) := by
      show hh = decide (q = k)
      rw [HY.out, hq]; simp
    have HB2 : Hid (Below w.heap.size w w2) := HB.out.trans (hb2.mono HB.out.size)
    have hq2 : q.2.length ≤ 100 := by
      unfold kyR at hq
      split at hq
      · cases hq; simp only [List.length_take]; omega
      · cases hq
    have HK2 : Hid (KeyV B w2 k (.agg #[.int .i64 (k.1 : Nat), .slice a1 k.2.length cap1])) := HK1.out.below hb2
    have HV : Hid (KeyV w.heap.size w2 q v) := hv
    have c2 := (hb2.block w.heap.size hz1).trans c1
    have x0 : w2.cell? ⟨w.heap.size, 0, none⟩ = some (.int .i64 (k.1 : Nat)) := rcell_of c2 rfl
    have x1 : w2.cell? ⟨w.heap.size, 1, none⟩ = some (.slice a1 k.2.length cap1) := rcell_of c2 rfl
    have hz2 : w.heap.size < w2.heap.size := Nat.lt_of_lt_of_le hz1 hb2.size
    have hne : w.heap.size ≠ w2.heap.size := Nat.ne_of_lt hz2
    clear c2
    obtain ⟨u, rfl, hu⟩ := hv
    obtain ⟨a2, cap2, hv2, -, -, -⟩ := owns_shape hu
    subst hv2
    clear hb2 HK1 h28' HY hu c1
    go_wp2_with fail
    refine (same_any w.heap.size B _ _ q k _ hq2 hk (HV.out.alloc _) (HK2.out.alloc _)).mono ?_
    rintro e w3 ⟨rfl, hb3⟩
    have HB3 : Hid (Below w.heap.size w w3) := HB2.out.trans ((below_new hb3).mono HB2.out.size)
    rw [← HF.out]
    clear hb3 HB HB2 HK2 HV HF
    go_wp2
    go_ret
    exact ⟨rfl, HB3.out⟩
end Go.Proofs.YtbmaiioecnmopaaGreatDoor

/-
  THE DOCUMENT's SIDE (package triageref): From. By the verifier of the loop 'triage'.
-/
namespace Go.Proofs.YtbmaiioecnmopaaGreatDoor
open Go.RowKit

theorem drop_bt (y : ByteArray) (a : Nat) (h : a < y.size) : ∃ u : UInt8, u.toNat = Im.bt y a ∧ y.data.toList.drop a = u :: y.data.toList.drop (a + 1) := by
  have hl : a < y.data.toList.length := by rw [Sh.size_list]; exact h
  refine ⟨y.data.toList[a], ?_, List.drop_eq_getElem_cons hl⟩
  rw [← Im.bt_eq y a h]
  rfl
theorem from_step (y x : ByteArray) (a b : Nat) (ha : a < y.size) (hb : b < x.size) (h : Sh.Frm (y.data.toList.drop a) (x.data.toList.drop b)) :
    (Im.bt y a = Im.bt x b ∨ Im.bt y a = 0 → Sh.Frm (y.data.toList.drop (a + 1)) (x.data.toList.drop (b + 1))) ∧ (¬ (Im.bt y a = Im.bt x b ∨ Im.bt y a = 0) → Sh.Frm (y.data.toList.drop a) (x.data.toList.drop (b + 1))) := by
  obtain ⟨u, hu, eu⟩ := drop_bt y a ha
  obtain ⟨v, hv, ev⟩ := drop_bt x b hb
  rw [eu, ev] at h
  constructor
  · intro hh
    refine Sh.frm_step h ?_
    rw [← hu, ← hv] at hh
    rcases hh with hh | hh
    · exact Or.inl (UInt8.toNat_inj.1 hh)
    · exact Or.inr (UInt8.toNat_inj.1 (by simpa using hh))
  · intro hh
    rw [eu]
    refine Sh.frm_skip h ?_
    rw [← hu, ← hv] at hh
    rintro (e | e)
    · exact hh (Or.inl (by rw [e]))
    · exact hh (Or.inr (by rw [e]; rfl))
theorem frm_nil {y x : List UInt8} (h : Sh.Frm y x) (hx : x = []) : y = [] := by subst hx; cases h; rfl

set_option maxHeartbeats 1600000 in
theorem from_any (y x : ByteArray) (w : World) (hy : y.size ≤ 1000) (hx : x.size ≤ 1000) (h : Sh.Frm y.data.toList x.data.toList) :
    Calls Tryz.prog 32 #[.string y, .string x] w fun e w' => e = .returned (.bool true) ∧ Below w.heap.size w w' := by
  go_enter Tryz.func32, Tryz.ntmps32
  go_wp2
  go_loopw [5, 6] (fun i k wr => ∃ a b : Nat, i = .int .i64 a ∧ k = .int .i64 b ∧ a ≤ y.size ∧ b ≤ x.size ∧ Sh.Frm (y.data.toList.drop a) (x.data.toList.drop b) ∧ Below w.heap.size w wr) (fun _ k _ => x.size - (intOf k).toNat)
  case atStart => exact ⟨0, 0, rfl, rfl, by omega, by omega, by simpa using h, Below.refl _ _⟩
  case round =>
    obtain ⟨a, b, rfl, rfl, ha, hb, hF, hB⟩ := hrel
    by_cases hlt : b < x.size ∧ a < y.size
    · obtain ⟨hbx, hay⟩ := hlt
      obtain ⟨s1, s2⟩ := from_step y x a b hay hbx hF
      have e1 := Im.bt_eq y a hay
      have e2 := Im.bt_eq x b hbx
      generalize Im.bt y a = p at *
      generalize Im.bt x b = q at *
      have HB : Hid (Below w.heap.size w wr) := hB
      by_cases hpq : p = q ∨ p = 0
      · have HF : Hid (Sh.Frm (y.data.toList.drop (a + 1)) (x.data.toList.drop (b + 1))) := s1 hpq
        clear s1 s2 hF hB
        by_cases hp0 : p = q
        · have hq : (((p : Nat) : Int) == ((q : Nat) : Int)) = true := by simp [hp0]
          go_wp2
          go_quiet (fail)
          go_wp2
          go_roundw
          case rel => exact ⟨a + 1, b + 1, by go_num, by go_num, by omega, by omega, HF.out, by first | exact HB.out | exact below_drewP _ HB.out⟩
          case measure => simp [intOf]; omega
        · have hq : (((p : Nat) : Int) == ((q : Nat) : Int)) = false := by simp; omega
          have hz : (((p : Nat) : Int) == 0) = true := by simp; omega
          go_wp2
          go_quiet (fail)
          go_wp2
          go_roundw
          case rel => exact ⟨a + 1, b + 1, by go_num, by go_num, by omega, by omega, HF.out, by first | exact HB.out | exact below_drewP _ HB.out⟩
          case measure => simp [intOf]; omega
      · have HF : Hid (Sh.Frm (y.data.toList.drop a) (x.data.toList.drop (b + 1))) := s2 hpq
        clear s1 s2 hF hB
        have hp1 : ¬ p = q := fun e => hpq (Or.inl e)
        have hp2 : ¬ p = 0 := fun e => hpq (Or.inr e)
        have hq : (((p : Nat) : Int) == ((q : Nat) : Int)) = false := by simp; omega
        have hz : (((p : Nat) : Int) == 0) = false := by simp; omega
        go_wp2
        go_quiet (fail)
        go_wp2
        go_roundw
        case rel => exact ⟨a, b + 1, by go_num, by go_num, by omega, by omega, HF.out, by first | exact HB.out | exact below_drewP _ HB.out⟩
        case measure => simp [intOf]; omega
    · have hae : a = y.size := by
        rcases Nat.lt_or_ge b x.size with h1 | h1
        · omega
        · have := frm_nil hF (List.drop_of_length_le (by rw [Sh.size_list]; exact h1))
          have := congrArg List.length this
          simp at this
          omega
      subst hae
      clear hF
      by_cases hbx : b < x.size
      all_goals
        go_wp2
        go_ret
        exact ⟨rfl, hB⟩
end Go.Proofs.YtbmaiioecnmopaaGreatDoor

/-
  THE DOCUMENT's SIDE (package triageref): Calm, Shrunk. By the verifier of the loop 'triage'.
-/
namespace Go.Proofs.YtbmaiioecnmopaaGreatDoor
open Go.RowKit

/-- what Calm answers. -/
def CalmPost (s : ByteArray) (fuel depth : Int) (inp : ByteArray) (w w' : World) (e : Ending) : Prop :=
  Below w.heap.size w w' ∧
  (((askP s fuel depth [inp]).1 ≠ 0 ∧ e = .returned (.tuple #[.agg #[.int .i64 0, .slice none 0 0], .int .i64 (askP s fuel depth [inp]).1, .int .i64 (askP s fuel depth [inp]).2])) ∨
   (AskOk s fuel depth [inp] ∧ ky s fuel.toNat depth.toNat inp = none ∧ e = .returned (.tuple #[.agg #[.int .i64 0, .slice none 0 0], .int .i64 7, .int .i64 0])) ∨
   (AskOk s fuel depth [inp] ∧ ∃ k v, ky s fuel.toNat depth.toNat inp = some k ∧ e = .returned (.tuple #[v, .int .i64 0, .int .i64 0]) ∧ KeyV w.heap.size w' k v))

/-- two cells are set at a block. -/
theorem put2_below {a w : World} {b B : Nat} {v0 v1 : Value} (h : Below B a w) (hb : B ≤ b) : Below B a ((w.setCell ⟨b, 0, none⟩ v0).setCell ⟨b, 1, none⟩ v1) := (h.setCell (p := ⟨b, 0, none⟩) hb _).setCell (p := ⟨b, 1, none⟩) hb _
theorem put2_keyV {w : World} {b B : Nat} {v0 v1 : Value} {k : Nat × List (Nat × Nat)} {v : Value} (h : KeyV B w k v) (hb : b < B) : KeyV B ((w.setCell ⟨b, 0, none⟩ v0).setCell ⟨b, 1, none⟩ v1) k v := by
  obtain ⟨u, rfl, hu⟩ := h
  exact ⟨u, rfl, owns_setb (owns_setb hu hb) hb⟩
/-- the cells of a key's block. -/
theorem key2_of {w : World} {b : Nat} {v0 v1 : Value} {t : TypeId} (h : w.heap[b]? = some (.cells #[v0, v1] t (0, 0))) : (w.cell? ⟨b, 0, none⟩ = some v0 ∧ w.cell? ⟨b, 1, none⟩ = some v1) ∧ (w.frozen? ⟨b, 0, none⟩ = false ∧ w.frozen? ⟨b, 1, none⟩ = false) :=
  ⟨⟨rcell_of h rfl, rcell_of h rfl⟩, ⟨rfree_of h, rfree_of h⟩⟩
theorem calm_bad {s inp : ByteArray} {fuel depth c p : Int} {w w1 : World} {v0 v1 : Value} (h : askP s fuel depth [inp] = (c, p)) (hc : c ≠ 0) (hb : Below w.heap.size w w1) :
    CalmPost s fuel depth inp w ((w1.setCell ⟨w.heap.size, 0, none⟩ v0).setCell ⟨w.heap.size, 1, none⟩ v1) (.returned (.tuple #[.agg #[.int .i64 0, .slice none 0 0], .int .i64 c, .int .i64 p])) :=
  ⟨put2_below hb (Nat.le_refl _), Or.inl ⟨by rw [h]; exact hc, by rw [h]⟩⟩
theorem calm_none {s inp : ByteArray} {fuel depth : Int} {w w1 : World} {v0 v1 : Value} {o : Obj} (h : AskOk s fuel depth [inp]) (hk : ky s fuel.toNat depth.toNat inp = none) (hb : Below w.heap.size w w1) :
    CalmPost s fuel depth inp w (((w1.setCell ⟨w.heap.size, 0, none⟩ v0).setCell ⟨w.heap.size, 1, none⟩ v1).alloc o) (.returned (.tuple #[.agg #[.int .i64 0, .slice none 0 0], .int .i64 7, .int .i64 0])) :=
  ⟨(put2_below hb (Nat.le_refl _)).alloc (put2_below hb (Nat.le_refl _)).size _, Or.inr (Or.inl ⟨h, hk, rfl⟩)⟩
theorem calm_some {s inp : ByteArray} {fuel depth : Int} {k : Nat × List (Nat × Nat)} {v : Value} {w w1 : World} {v0 v1 : Value} {o : Obj} (h : AskOk s fuel depth [inp]) (hk : ky s fuel.toNat depth.toNat inp = some k) (hb : Below w.heap.size w w1) (hv : KeyV (w.heap.size + 1) w1 k v) :
    CalmPost s fuel depth inp w (((w1.setCell ⟨w.heap.size, 0, none⟩ v0).setCell ⟨w.heap.size, 1, none⟩ v1).alloc o) (.returned (.tuple #[v, .int .i64 0, .int .i64 0])) :=
  ⟨(put2_below hb (Nat.le_refl _)).alloc (put2_below hb (Nat.le_refl _)).size _, Or.inr (Or.inr ⟨h, k, v, hk, rfl, ((put2_keyV hv (Nat.lt_succ_self _)).alloc _).base (Nat.le_succ _)⟩)⟩

theorem KeyV.drewN {B : Nat} {w : World} {k : Nat × List (Nat × Nat)} {v : Value} (h : KeyV B w k v) (n : Nat) : KeyV B (w.drewN n) k v := by obtain ⟨u, rfl, hu⟩ := h; exact ⟨u, rfl, hu⟩
theorem wrap_succ (j : Nat) (h : j < 200) : IntKind.wrap .i64 (((j : Nat) : Int) + 1) = ((j : Nat) : Int) + 1 := by
  have := wrap_small (j + 1) (by omega)
  simpa using this
theorem getD_bt (y : ByteArray) (i : Nat) (h : i < y.size) : y.data.toList[i]?.getD 0 ≠ 0 ↔ Im.bt y i ≠ 0 := by
  have hl : i < y.data.toList.length := by rw [Sh.size_list]; exact h
  rw [List.getElem?_eq_getElem hl, ← Im.bt_eq y i h]
  show y.data.toList[i] ≠ 0 ↔ (y.data.toList[i]).toNat ≠ 0
  constructor
  · intro h1 h2; exact h1 (UInt8.toNat_inj.1 (by simpa using h2))
  · intro h1 h2; exact h1 (by rw [h2]; rfl)

set_option maxHeartbeats 3200000 in
theorem shrunk_any (B : Nat) (s x y : ByteArray) (fuel d : Nat) (k : Nat × List (Nat × Nat)) (kv : Value) (w : World) (hc : Im.chk s = (0, 0)) (hx : x.size ≤ 24) (hf : fuel ≤ 2000) (hd : d ≤ 6) (hk : k.2.length ≤ 100) (hK : KeyV B w k kv)
    (hD : Sh.Done (hit s fuel d k) x y) :
    Calls Tryz.prog 16 #[.string s, .int .i64 (fuel : Nat), .int .i64 (d : Nat), .string x, kv, .string y] w fun e w' => e = .returned (.bool true) ∧ Below w.heap.size w w' := by
  have HK : Hid (KeyV B w k kv) := hK
  obtain ⟨u, rfl, hu⟩ := hK
  obtain ⟨a1, cap1, hv1, -, -, -⟩ := owns_shape hu
  subst hv1
  clear hu
  have hy : y.size ≤ 24 := Nat.le_trans hD.inv.size hx
  have HD : Hid (Sh.Done (hit s fuel d k) x y) := hD
  clear hD
  go_enter Tryz.func16, Tryz.ntmps16
  go_wp2_with fail
  refine (from_any y x _ (by omega) (by omega) HD.out.inv.frm).mono ?_
  rintro e w1 ⟨rfl, hb1⟩
  have HB : Hid (Below w.heap.size w w1) := below_new hb1
  have c1 : w1.heap[w.heap.size]? = some (.cells #[.int .i64 (k.1 : Nat), .slice a1 k.2.length cap1] 51 (0, 0)) := (hb1.block _ (by simp)).trans (rheap_new _ _)
  have hz1 : w.heap.size < w1.heap.size := by have := hb1.size; simp at this; omega
  have HK1 : Hid (KeyV B w1 k (.agg #[.int .i64 (k.1 : Nat), .slice a1 k.2.length cap1])) := HK.out.below HB.out
  obtain ⟨⟨x0, x1⟩, -⟩ := key2_of c1
  clear hb1
  go_wp2_with fail
  refine (hits_any B s y fuel d k _ _ hc hy hf hd hk HK1.out).mono ?_
  rintro e w2 ⟨rfl, hb2⟩
  rw [HD.out.inv.hit]
  have HB2 : Hid (Below w.heap.size w w2) := HB.out.trans (hb2.mono (Nat.le_of_lt hz1))
  have c2 := (hb2.block w.heap.size hz1).trans c1
  have C2 : Hid (w2.heap[w.heap.size]? = some (.cells #[.int .i64 (k.1 : Nat), .slice a1 k.2.length cap1] 51 (0, 0))) := c2
  have hz2 : w.heap.size < w2.heap.size := Nat.lt_of_lt_of_le hz1 hb2.size
  clear hb2 c1 c2 x0 x1 HB HK1
  go_wp2
  go_loopw [14] (fun i wr => ∃ j : Nat, i = .int .i64 j ∧ j ≤ y.size ∧ Below w.heap.size w wr ∧ w.heap.size < wr.heap.size ∧ wr.heap[w.heap.size]? = some (.cells #[.int .i64 (k.1 : Nat), .slice a1 k.2.length cap1] 51 (0, 0))) (fun i _ => y.size - (intOf i).toNat)
  case atStart => exact ⟨0, rfl, by omega, HB2.out, hz2, C2.out⟩
  case round =>
    obtain ⟨j, rfl, hj, hB, hzr, hcr⟩ := hrel
    by_cases hlt : j < y.size
    · have HK1 : Hid (KeyV B wr k (.agg #[.int .i64 (k.1 : Nat), .slice a1 k.2.length cap1])) := HK.out.below hB
      have HB : Hid (Below w.heap.size w wr) := hB
      obtain ⟨⟨x0, x1⟩, -⟩ := key2_of hcr
      have HC : Hid (wr.heap[w.heap.size]? = some (.cells #[.int .i64 (k.1 : Nat), .slice a1 k.2.length cap1] 51 (0, 0))) := hcr
      have hcs : (Sh.cut y j).size ≤ 24 := by rw [Sh.cut_size y j hlt]; omega
      have hbs : (Sh.blk y j).size ≤ 24 := by rw [Sh.blk_size y j hlt]; omega
      have hl0 : ((j : Nat) : Int) ≤ ((y.size : Nat) : Int) := by omega
      have hl1 : ((j : Nat) : Int) + 1 ≤ ((y.size : Nat) : Int) := by omega
      have hl3 : (0 : Int) ≤ ((j : Nat) : Int) + 1 := by omega
      have hm1 : min j y.size + (y.size - (j + 1)) ≤ 9223372036854775807 := by omega
      have hm2 : min j y.size ≤ 9223372036854775806 := by omega
      have hm3 : min j y.size + 1 + (y.size - (j + 1)) ≤ 9223372036854775807 := by omega
      have hw1 : IntKind.wrap .i64 (((j : Nat) : Int) + 1) = ((j : Nat) : Int) + 1 := wrap_succ j (by omega)
      have hs1 : ∀ W : World, (Instr.slice 9 (.string y) (some (.int .i64 (((j : Nat) : Int) + 1))) none none).run Tryz.prog W = .ok (.string (y.extract (j + 1) y.size)) W := fun W => run_slice_string_l W 9 y (by kernel_rfl) .i64 (((j : Nat) : Int) + 1) hl3 hl1
      clear hB hcr
      go_wp2
      go_region_held (fun W => W.cell? ⟨w.heap.size, 0, none⟩ = some (.int .i64 (k.1 : Nat)) ∧ W.cell? ⟨w.heap.size, 1, none⟩ = some (.slice a1 k.2.length cap1)) (go_keep)
        (first | (go_at_call 33; refine (hits_any B s (Sh.cut y j) fuel d k _ _ hc hcs hf hd hk ?_).mono ?_; exact HK1.out.drewN _; rintro e w3 ⟨rfl, hb3⟩; rw [HD.out.cuts j hlt]; have hb3' : Below wr.heap.size wr w3 := ⟨hb3.os, hb3.tape, hb3.output, hb3.size, hb3.block⟩; obtain ⟨⟨x0', x1'⟩, -⟩ := key2_of ((hb3'.block w.heap.size hzr).trans HC.out)))
      all_goals
        have HB3 : Hid (Below w.heap.size w w3) := HB.out.trans (hb3'.mono (Nat.le_of_lt hzr))
        have HC3 : Hid (w3.heap[w.heap.size]? = some (.cells #[.int .i64 (k.1 : Nat), .slice a1 k.2.length cap1] 51 (0, 0))) := (hb3'.block w.heap.size hzr).trans HC.out
        have hz3 : w.heap.size < w3.heap.size := Nat.lt_of_lt_of_le hzr hb3'.size
        have HK3 : Hid (KeyV B w3 k (.agg #[.int .i64 (k.1 : Nat), .slice a1 k.2.length cap1])) := HK1.out.below hb3'
        clear hb3 hb3' x0 x1 HB HC HK1
        have hej := Im.bt_eq y j hlt
        have HZ : Hid (Im.bt y j ≠ 0 → hit s fuel d k (Sh.blk y j) = false) := fun h => HD.out.blks j hlt ((getD_bt y j hlt).2 h)
        generalize Im.bt y j = p at *
        by_cases hp : p = 0
        · have hq : (((p : Nat) : Int) == 0) = true := by simp [hp]
          have hq2 : (((p : Nat) : Int) != 0) = false := by simp [hp]
          go_wp2
          go_quiet (fail)
          all_goals
            go_wp2
            go_roundw
            case rel => exact ⟨j + 1, by go_num, by omega, below_drewP _ HB3.out, hz3, HC3.out⟩
            case measure => simp [intOf]; omega
        · have hq : (((p : Nat) : Int) == 0) = false := by simp; omega
          have hq2 : (((p : Nat) : Int) != 0) = true := by simp; omega
          have HF : Hid (hit s fuel d k (Sh.blk y j) = false) := HZ.out hp
          go_wp2
          go_region_held (fun W => W.cell? ⟨w.heap.size, 0, none⟩ = some (.int .i64 (k.1 : Nat)) ∧ W.cell? ⟨w.heap.size, 1, none⟩ = some (.slice a1 k.2.length cap1)) (go_keep)
            (first | (go_at_call 33; refine (hits_any B s (Sh.blk y j) fuel d k _ _ hc hbs hf hd hk ?_).mono ?_; exact HK3.out.drewN _; rintro e w4 ⟨rfl, hb4⟩; rw [HF.out]; have hb4' : Below w3.heap.size w3 w4 := ⟨hb4.os, hb4.tape, hb4.output, hb4.size, hb4.block⟩; obtain ⟨⟨x0'', x1''⟩, -⟩ := key2_of ((hb4'.block w.heap.size hz3).trans HC3.out)))
          all_goals
            have HB4 : Hid (Below w.heap.size w w4) := HB3.out.trans (hb4'.mono (Nat.le_of_lt hz3))
            have HC4 : Hid (w4.heap[w.heap.size]? = some (.cells #[.int .i64 (k.1 : Nat), .slice a1 k.2.length cap1] 51 (0, 0))) := (hb4'.block w.heap.size hz3).trans HC3.out
            have hz4 : w.heap.size < w4.heap.size := Nat.lt_of_lt_of_le hz3 hb4'.size
            clear hb4 hb4' x0' x1' x0'' x1'' HB3 HC3 HK3
            go_wp2
            go_roundw
            case rel => exact ⟨j + 1, by go_num, by omega, HB4.out, hz4, HC4.out⟩
            case measure => simp [intOf]; omega
    · obtain rfl : j = y.size := by omega
      have HB : Hid (Below w.heap.size w wr) := hB
      clear hB hcr
      go_wp2
      go_ret
      exact ⟨rfl, HB.out⟩
end Go.Proofs.YtbmaiioecnmopaaGreatDoor
