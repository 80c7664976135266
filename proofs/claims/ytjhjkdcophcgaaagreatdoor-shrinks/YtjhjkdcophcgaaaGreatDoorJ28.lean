/-
  ShB, ShD: THESE TEXTS, JOINED. By the verifier of the loop 'triage'.
-/
import Derived.Test.YtjhjkdcophcgaaaGreatDoorJ25
import Derived.Deep.RegionHeld3
import Derived.Test.YtjhjkdcophcgaaaGreatDoorJ27
/-
  THE DOCUMENT's SIDE (package triageref): Calm, Shrunk. By the verifier of the loop 'triage'.
-/
namespace Go.Proofs.YtjhjkdcophcgaaaGreatDoor
open Go.RowKit

/-- what Calm answers. -/
def CalmPost (s : ByteArray) (fuel depth : Int) (inp : ByteArray) (w w' : World) (e : Ending) : Prop :=
  Below w.heap.size w w' ∧
  (((askP s fuel depth [inp]).1 ≠ 0 ∧ e = .returned (.tuple #[.agg #[.int .i64 0, .slice none 0 0], .int .i64 (askP s fuel depth [inp]).1, .int .i64 (askP s fuel depth [inp]).2])) ∨
   (AskOk s fuel depth [inp] ∧ ky s fuel.toNat depth.toNat inp = none ∧ e = .returned (.tuple #[.agg #[.int .i64 0, .slice none 0 0], .int .i64 7, .int .i64 0])) ∨
   (AskOk s fuel depth [inp] ∧ ∃ k v, ky s fuel.toNat depth.toNat inp = some k ∧ e = .returned (.tuple #[v, .int .i64 0, .int .i64 0]) ∧ KeyV w.heap.size w' k v))

/-- two cells are set at a block. -/
theorem put2_below {a w : World} {b B : Nat} {v0 v1 : Value} (h : Below B a w) (hb : B ≤ b) : Below B a ((w.setCell ⟨b, 0, none⟩ v0).setCell ⟨b, 1, none⟩ v1) := (h.setCell (p := ⟨b, 0, none⟩) hb _).setCell (p := ⟨b, 1, none⟩) hb _
theorem put2_keyV {w : World} {b B : Nat} {v0 v1 : Value} {k : Nat × List (Nat × Nat)} {v : Value} (h : KeyV B w k v) (hb : b < B) : KeyV B ((w.setCell ⟨b, 0, none⟩ v0).setCell ⟨b, 1, none⟩ v1) k v := by
  obtain ⟨u, rfl, hu⟩ := h
  exact ⟨u, rfl, owns_setb (owns_setb hu hb) hb⟩
/-- the cells of a key's block. -/
theorem key2_of {w : World} {b : Nat} {v0 v1 : Value} {t : TypeId} (h : w.heap[b]? = some (.cells #[v0, v1] t (0, 0))) : (w.cell? ⟨b, 0, none⟩ = some v0 ∧ w.cell? ⟨b, 1, none⟩ = some v1) ∧ (w.frozen? ⟨b, 0, none⟩ = false ∧ w.frozen? ⟨b, 1, none⟩ = false) :=
  ⟨⟨rcell_of h rfl, rcell_of h rfl⟩, ⟨rfree_of h, rfree_of h⟩⟩
theorem calm_bad {s inp : ByteArray} {fuel depth c p : Int} {w w1 : World} {v0 v1 : Value} (h : askP s fuel depth [inp] = (c, p)) (hc : c ≠ 0) (hb : Below w.heap.size w w1) :
    CalmPost s fuel depth inp w ((w1.setCell ⟨w.heap.size, 0, none⟩ v0).setCell ⟨w.heap.size, 1, none⟩ v1) (.returned (.tuple #[.agg #[.int .i64 0, .slice none 0 0], .int .i64 c, .int .i64 p])) :=
  ⟨put2_below hb (Nat.le_refl _), Or.inl ⟨by rw [h]; exact hc, by rw [h]⟩⟩
theorem calm_none {s inp : ByteArray} {fuel depth : Int} {w w1 : World} {v0 v1 : Value} {o : Obj} (h : AskOk s fuel depth [inp]) (hk : ky s fuel.toNat depth.toNat inp = none) (hb : Below w.heap.size w w1) :
    CalmPost s fuel depth inp w (((w1.setCell ⟨w.heap.size, 0, none⟩ v0).setCell ⟨w.heap.size, 1, none⟩ v1).alloc o) (.returned (.tuple #[.agg #[.int .i64 0, .slice none 0 0], .int .i64 7, .int .i64 0])) :=
  ⟨(put2_below hb (Nat.le_refl _)).alloc (put2_below hb (Nat.le_refl _)).size _, Or.inr (Or.inl ⟨h, hk, rfl⟩)⟩
theorem calm_some {s inp : ByteArray} {fuel depth : Int} {k : Nat × List (Nat × Nat)} {v : Value} {w w1 : World} {v0 v1 : Value} {o : Obj} (h : AskOk s fuel depth [inp]) (hk : ky s fuel.toNat depth.toNat inp = some k) (hb : Below w.heap.size w w1) (hv : KeyV (w.heap.size + 1) w1 k v) :
    CalmPost s fuel depth inp w (((w1.setCell ⟨w.heap.size, 0, none⟩ v0).setCell ⟨w.heap.size, 1, none⟩ v1).alloc o) (.returned (.tuple #[v, .int .i64 0, .int .i64 0])) :=
  ⟨(put2_below hb (Nat.le_refl _)).alloc (put2_below hb (Nat.le_refl _)).size _, Or.inr (Or.inr ⟨h, k, v, hk, rfl, ((put2_keyV hv (Nat.lt_succ_self _)).alloc _).base (Nat.le_succ _)⟩)⟩

set_option maxHeartbeats 1600000 in
theorem calm_any (s inp : ByteArray) (fuel depth : Int) (w : World) (hm : inp.size ≤ maxLen) :
    Calls Tryz.prog 15 #[.string s, .int .i64 fuel, .int .i64 depth, .string inp] w fun e w' => CalmPost s fuel depth inp w w' e := by
  have hI := ins_one inp (w.alloc (.cells #[.int .i64 0, .slice none 0 0] 51)) 9 hm
  simp only [World.size_alloc] at hI
  have HI : Hid (Ins [inp] (.slice (some ⟨w.heap.size + 1, 0, none⟩) 1 1) ((w.alloc (.cells #[.int .i64 0, .slice none 0 0] 51)).alloc (.cells #[.string inp] 9))) := hI
  clear hI
  go_enter Tryz.func15, Tryz.ntmps15
  go_wp2_with fail
  refine (asked_any s fuel depth [inp] _ _ HI.out).mono ?_
  rintro e w1 ⟨rfl, hb1⟩
  have c1 := (two_new hb1).1
  have HB : Hid (Below w.heap.size w w1) := below_two hb1
  have hz1 : w.heap.size < w1.heap.size := by have := hb1.size; simp at this; omega
  clear hb1 HI
  by_cases h : (askP s fuel depth [inp]).1 = 0
  · have HOK : Hid (AskOk s fuel depth [inp]) := askP_zero h
    have ha := HOK.out.ask
    rw [ha]
    obtain ⟨fu, rfl⟩ : ∃ fu : Nat, fuel = (fu : Int) := ⟨fuel.toNat, by have := HOK.out.fu; omega⟩
    obtain ⟨d, rfl⟩ : ∃ d : Nat, depth = (d : Int) := ⟨depth.toNat, by have := HOK.out.de; omega⟩
    have hf : fu ≤ 2000 := by have := HOK.out.fu; omega
    have hd : d ≤ 6 := by have := HOK.out.de; omega
    have hi : inp.size ≤ 24 := HOK.out.sz inp (by simp)
    have hc := HOK.out.chk
    have hst := rep_sts (s := s) (inp := inp) (fuel := fu) hc hi hf
    clear h ha
    go_wp2_with fail
    refine (play_rep s inp fu _ hc hi hf).mono ?_
    rintro e w2 ⟨v28, v29, rfl, h28, h29, hb2⟩
    have HKY : Hid (ky s fu d inp = kyR (rep s fu inp) d) := rfl
    have HB2 : Hid (Below w.heap.size w w2) := HB.out.trans (hb2.mono HB.out.size)
    have c2 := (hb2.block w.heap.size hz1).trans c1
    have hz2 : w.heap.size < w2.heap.size := Nat.lt_of_lt_of_le hz1 hb2.size
    have h28' := owns_base (base' := w.heap.size + 1) h28 hz1
    generalize rep s fu inp = p at *
    clear hb2 h28 h29 hc hi hf c1
    go_wp2_with fail
    refine (keyOf_any (w.heap.size + 1) p d v28 v29 _ hd (by omega) h28').mono ?_
    rintro e w3 ⟨hb3, hm3⟩
    have HB3 : Hid (Below w.heap.size w w3) := HB2.out.trans (hb3.mono HB2.out.size)
    have c3 := (hb3.block w.heap.size hz2).trans c2
    have hz3 : w.heap.size < w3.heap.size := Nat.lt_of_lt_of_le hz2 hb3.size
    obtain ⟨⟨d0, d1⟩, ⟨f0, f1⟩⟩ := key2_of c3
    clear hb3 c2 c3
    cases hq : kyR p d with
    | none =>
      rw [hq] at hm3
      subst hm3
      have HQ : Hid (ky s fu d inp = none) := HKY.out.trans hq
      clear h28' HKY
      go_wp2
      exact bodyPost_ret (v := .tuple #[.agg #[.int .i64 0, .slice none 0 0], .int .i64 7, .int .i64 0]) (by simp [results, Tryz.results15, go_sem, d0, d1, hz3]) rfl (calm_none HOK.out HQ.out HB3.out)
    | some q =>
      rw [hq] at hm3
      obtain ⟨v, rfl, hv⟩ := hm3
      have HQ : Hid (ky s fu d inp = some q) := HKY.out.trans hq
      have HV : Hid (KeyV (w.heap.size + 1) w3 q v) := hv
      obtain ⟨u, rfl, hu⟩ := hv
      obtain ⟨a2, cap2, hv2, -, -, -⟩ := owns_shape hu
      subst hv2
      clear h28' HKY hu
      go_wp2
      exact bodyPost_ret (v := .tuple #[.agg #[.int .i64 (q.1 : Nat), .slice a2 q.2.length cap2], .int .i64 0, .int .i64 0]) (by simp [results, Tryz.results15, go_sem, d0, d1, hz3]) rfl (calm_some HOK.out HQ.out HB3.out HV.out)
  · have HQ : Hid (askP s fuel depth [inp] = ((askP s fuel depth [inp]).1, (askP s fuel depth [inp]).2)) := rfl
    have hb : ((askP s fuel depth [inp]).1 == 0) = false := by simpa using h
    obtain ⟨⟨d0, d1⟩, ⟨f0, f1⟩⟩ := key2_of c1
    clear c1
    generalize (askP s fuel depth [inp]).1 = c at *
    generalize (askP s fuel depth [inp]).2 = p at *
    go_wp2
    exact bodyPost_ret (v := .tuple #[.agg #[.int .i64 0, .slice none 0 0], .int .i64 c, .int .i64 p]) (by simp [results, Tryz.results15, go_sem, d0, d1]) rfl (calm_bad HQ.out h HB.out)

theorem KeyV.drewN {B : Nat} {w : World} {k : Nat × List (Nat × Nat)} {v : Value} (h : KeyV B w k v) (n : Nat) : KeyV B (w.drewN n) k v := by obtain ⟨u, rfl, hu⟩ := h; exact ⟨u, rfl, hu⟩
theorem wrap_succ (j : Nat) (h : j < 200) : IntKind.wrap .i64 (((j : Nat) : Int) + 1) = ((j : Nat) : Int) + 1 := by
  have := wrap_small (j + 1) (by omega)
  simpa using this
theorem getD_bt (y : ByteArray) (i : Nat) (h : i < y.size) : y.data.toList[i]?.getD 0 ≠ 0 ↔ Im.bt y i ≠ 0 := by
  have hl : i < y.data.toList.length := by rw [Sh.size_list]; exact h
  rw [List.getElem?_eq_getElem hl, ← Im.bt_eq y i h]
  show y.data.toList[i] ≠ 0 ↔ (y.data.toList[i]).toNat ≠ 0
  constructor
  · intro h1 h2; exact h1 (UInt8.toNat_inj.1 (by simpa using h2))
  · intro h1 h2; exact h1 (by rw [h2]; rfl)

set_option maxHeartbeats 3200000 in
theorem shrunk_any (B : Nat) (s x y : ByteArray) (fuel d : Nat) (k : Nat × List (Nat × Nat)) (kv : Value) (w : World) (hc : Im.chk s = (0, 0)) (hx : x.size ≤ 24) (hf : fuel ≤ 2000) (hd : d ≤ 6) (hk : k.2.length ≤ 100) (hK : KeyV B w k kv)
    (hD : Sh.Done (hit s fuel d k) x y) :
    Calls Tryz.prog 16 #[.string s, .int .i64 (fuel : Nat), .int .i64 (d : Nat), .string x, kv, .string y] w fun e w' => e = .returned (.bool true) ∧ Below w.heap.size w w' := by
  have HK : Hid (KeyV B w k kv) := hK
  obtain ⟨u, rfl, hu⟩ := hK
  obtain ⟨a1, cap1, hv1, -, -, -⟩ := owns_shape hu
  subst hv1
  clear hu
  have hy : y.size ≤ 24 := Nat.le_trans hD.inv.size hx
  have HD : Hid (Sh.Done (hit s fuel d k) x y) := hD
  clear hD
  go_enter Tryz.func16, Tryz.ntmps16
  go_wp2_with fail
  refine (from_any y x _ (by omega) (by omega) HD.out.inv.frm).mono ?_
  rintro e w1 ⟨rfl, hb1⟩
  have HB : Hid (Below w.heap.size w w1) := below_new hb1
  have c1 : w1.heap[w.heap.size]? = some (.cells #[.int .i64 (k.1 : Nat), .slice a1 k.2.length cap1] 51 (0, 0)) := (hb1.block _ (by simp)).trans (rheap_new _ _)
  have hz1 : w.heap.size < w1.heap.size := by have := hb1.size; simp at this; omega
  have HK1 : Hid (KeyV B w1 k (.agg #[.int .i64 (k.1 : Nat), .slice a1 k.2.length cap1])) := HK.out.below HB.out
  obtain ⟨⟨x0, x1⟩, -⟩ := key2_of c1
  clear hb1
  go_wp2_with fail
  refine (hits_any B s y fuel d k _ _ hc hy hf hd hk HK1.out).mono ?_
  rintro e w2 ⟨rfl, hb2⟩
  rw [HD.out.inv.hit]
  have HB2 : Hid (Below w.heap.size w w2) := HB.out.trans (hb2.mono (Nat.le_of_lt hz1))
  have c2 := (hb2.block w.heap.size hz1).trans c1
  have C2 : Hid (w2.heap[w.heap.size]? = some (.cells #[.int .i64 (k.1 : Nat), .slice a1 k.2.length cap1] 51 (0, 0))) := c2
  have hz2 : w.heap.size < w2.heap.size := Nat.lt_of_lt_of_le hz1 hb2.size
  clear hb2 c1 c2 x0 x1 HB HK1
  go_wp2
  go_loopw [14] (fun i wr => ∃ j : Nat, i = .int .i64 j ∧ j ≤ y.size ∧ Below w.heap.size w wr ∧ w.heap.size < wr.heap.size ∧ wr.heap[w.heap.size]? = some (.cells #[.int .i64 (k.1 : Nat), .slice a1 k.2.length cap1] 51 (0, 0))) (fun i _ => y.size - (intOf i).toNat)
  case atStart => exact ⟨0, rfl, by omega, HB2.out, hz2, C2.out⟩
  case round =>
    obtain ⟨j, rfl, hj, hB, hzr, hcr⟩ := hrel
    by_cases hlt : j < y.size
    · have HK1 : Hid (KeyV B wr k (.agg #[.int .i64 (k.1 : Nat), .slice a1 k.2.length cap1])) := HK.out.below hB
      have HB : Hid (Below w.heap.size w wr) := hB
      obtain ⟨⟨x0, x1⟩, -⟩ := key2_of hcr
      have HC : Hid (wr.heap[w.heap.size]? = some (.cells #[.int .i64 (k.1 : Nat), .slice a1 k.2.length cap1] 51 (0, 0))) := hcr
      have hcs : (Sh.cut y j).size ≤ 24 := by rw [Sh.cut_size y j hlt]; omega
      have hbs : (Sh.blk y j).size ≤ 24 := by rw [Sh.blk_size y j hlt]; omega
      have hl0 : ((j : Nat) : Int) ≤ ((y.size : Nat) : Int) := by omega
      have hl1 : ((j : Nat) : Int) + 1 ≤ ((y.size : Nat) : Int) := by omega
      have hl3 : (0 : Int) ≤ ((j : Nat) : Int) + 1 := by omega
      have hm1 : min j y.size + (y.size - (j + 1)) ≤ 9223372036854775807 := by omega
      have hm2 : min j y.size ≤ 9223372036854775806 := by omega
      have hm3 : min j y.size + 1 + (y.size - (j + 1)) ≤ 9223372036854775807 := by omega
      have hw1 : IntKind.wrap .i64 (((j : Nat) : Int) + 1) = ((j : Nat) : Int) + 1 := wrap_succ j (by omega)
      have hs1 : ∀ W : World, (Instr.slice 9 (.string y) (some (.int .i64 (((j : Nat) : Int) + 1))) none none).run Tryz.prog W = .ok (.string (y.extract (j + 1) y.size)) W := fun W => run_slice_string_l W 9 y (by kernel_rfl) .i64 (((j : Nat) : Int) + 1) hl3 hl1
      clear hB hcr
      go_wp2
      go_region_held (fun W => W.cell? ⟨w.heap.size, 0, none⟩ = some (.int .i64 (k.1 : Nat)) ∧ W.cell? ⟨w.heap.size, 1, none⟩ = some (.slice a1 k.2.length cap1)) (go_keep)
        (first | (go_at_call 33; refine (hits_any B s (Sh.cut y j) fuel d k _ _ hc hcs hf hd hk ?_).mono ?_; exact HK1.out.drewN _; rintro e w3 ⟨rfl, hb3⟩; rw [HD.out.cuts j hlt]; have hb3' : Below wr.heap.size wr w3 := ⟨hb3.os, hb3.tape, hb3.output, hb3.size, hb3.block⟩; obtain ⟨⟨x0', x1'⟩, -⟩ := key2_of ((hb3'.block w.heap.size hzr).trans HC.out)))
      all_goals
        have HB3 : Hid (Below w.heap.size w w3) := HB.out.trans (hb3'.mono (Nat.le_of_lt hzr))
        have HC3 : Hid (w3.heap[w.heap.size]? = some (.cells #[.int .i64 (k.1 : Nat), .slice a1 k.2.length cap1] 51 (0, 0))) := (hb3'.block w.heap.size hzr).trans HC.out
        have hz3 : w.heap.size < w3.heap.size := Nat.lt_of_lt_of_le hzr hb3'.size
        have HK3 : Hid (KeyV B w3 k (.agg #[.int .i64 (k.1 : Nat), .slice a1 k.2.length cap1])) := HK1.out.below hb3'
        clear hb3 hb3' x0 x1 HB HC HK1
        have hej := Im.bt_eq y j hlt
        have HZ : Hid (Im.bt y j ≠ 0 → hit s fuel d k (Sh.blk y j) = false) := fun h => HD.out.blks j hlt ((getD_bt y j hlt).2 h)
        generalize Im.bt y j = p at *
        by_cases hp : p = 0
        · have hq : (((p : Nat) : Int) == 0) = true := by simp [hp]
          have hq2 : (((p : Nat) : Int) != 0) = false := by simp [hp]
          go_wp2
          go_quiet (fail)
          all_goals
            go_wp2
            go_roundw
            case rel => exact ⟨j + 1, by go_num, by omega, below_drewP _ HB3.out, hz3, HC3.out⟩
            case measure => simp [intOf]; omega
        · have hq : (((p : Nat) : Int) == 0) = false := by simp; omega
          have hq2 : (((p : Nat) : Int) != 0) = true := by simp; omega
          have HF : Hid (hit s fuel d k (Sh.blk y j) = false) := HZ.out hp
          go_wp2
          go_region_held (fun W => W.cell? ⟨w.heap.size, 0, none⟩ = some (.int .i64 (k.1 : Nat)) ∧ W.cell? ⟨w.heap.size, 1, none⟩ = some (.slice a1 k.2.length cap1)) (go_keep)
            (first | (go_at_call 33; refine (hits_any B s (Sh.blk y j) fuel d k _ _ hc hbs hf hd hk ?_).mono ?_; exact HK3.out.drewN _; rintro e w4 ⟨rfl, hb4⟩; rw [HF.out]; have hb4' : Below w3.heap.size w3 w4 := ⟨hb4.os, hb4.tape, hb4.output, hb4.size, hb4.block⟩; obtain ⟨⟨x0'', x1''⟩, -⟩ := key2_of ((hb4'.block w.heap.size hz3).trans HC3.out)))
          all_goals
            have HB4 : Hid (Below w.heap.size w w4) := HB3.out.trans (hb4'.mono (Nat.le_of_lt hz3))
            have HC4 : Hid (w4.heap[w.heap.size]? = some (.cells #[.int .i64 (k.1 : Nat), .slice a1 k.2.length cap1] 51 (0, 0))) := (hb4'.block w.heap.size hz3).trans HC3.out
            have hz4 : w.heap.size < w4.heap.size := Nat.lt_of_lt_of_le hz3 hb4'.size
            clear hb4 hb4' x0' x1' x0'' x1'' HB3 HC3 HK3
            go_wp2
            go_roundw
            case rel => exact ⟨j + 1, by go_num, by omega, HB4.out, hz4, HC4.out⟩
            case measure => simp [intOf]; omega
    · obtain rfl : j = y.size := by omega
      have HB : Hid (Below w.heap.size w wr) := hB
      clear hB hcr
      go_wp2
      go_ret
      exact ⟨rfl, HB.out⟩
end Go.Proofs.YtjhjkdcophcgaaaGreatDoor

/-
  THE PROGRAM's SIDE (package triage): crashesSo, without, blanked. By the verifier of the loop 'triage'.
-/
namespace Go.Proofs.YtjhjkdcophcgaaaGreatDoor
open Go.RowKit

set_option maxHeartbeats 800000 in
theorem without_any (t : ByteArray) (i : Nat) (w : World) (hi : i < t.size) (ht : t.size ≤ 24) :
    Calls Tryz.prog 81 #[.string t, .int .i64 (i : Nat)] w fun e w' => e = .returned (.string (Sh.cut t i)) ∧ Below w.heap.size w w' := by
  go_enter Tryz.func81, Tryz.ntmps81
  go_wp2
  go_quiet (fail)
  go_wp2
  go_ret
  exact ⟨rfl, below_drewP _ (Below.refl _ _)⟩
set_option maxHeartbeats 800000 in
theorem blanked_any (t : ByteArray) (i : Nat) (w : World) (hi : i < t.size) (ht : t.size ≤ 24) :
    Calls Tryz.prog 83 #[.string t, .int .i64 (i : Nat)] w fun e w' => e = .returned (.string (Sh.blk t i)) ∧ Below w.heap.size w w' := by
  go_enter Tryz.func83, Tryz.ntmps83
  go_wp2
  go_quiet (fail)
  go_wp2
  go_ret
  exact ⟨rfl, below_drewP _ (Below.refl _ _)⟩

theorem run_equalIn_ints {P : Program} (D : Nat) (t elem : TypeId) (len : Nat) (xs ys : Array Value) (f g : Nat → Int) (ht : P.underlying t = some (.array len elem))
    (hD : ∀ (a b : Int) (W : World), (Op.equalIn D elem (.int .i64 a) (.int .i64 b)).run P W = .ok (a == b) W)
    (hs : ∀ W : World, (sizeOf elem).run P W = .ok 1 W) (hx : ∀ i, i < len → ∀ W : World, (part elem xs i).run P W = .ok (.int .i64 (f i)) W) (hy : ∀ i, i < len → ∀ W : World, (part elem ys i).run P W = .ok (.int .i64 (g i)) W) (w : World) :
    (Op.equalIn (D + 1) t (.agg xs) (.agg ys)).run P w = .ok (decide (∀ i, i < len → f i = g i)) w := by
  have key : ∀ (l : List Nat), (∀ i ∈ l, i < len) → ∀ W : World, (forIn (m := Sem) l ((none : Option Bool), ()) (fun i _ => do
        let a ← part elem xs (i * 1)
        let b ← part elem ys (i * 1)
        let e ← Op.equalIn D elem a b
        if (!e) = true then pure (ForInStep.done (some false, ())) else pure (ForInStep.yield (none, ())))).run P W = .ok (if (∀ i ∈ l, f i = g i) then (none, ()) else (some false, ())) W := by
    intro l
    induction l with
    | nil => intro _ W; simp
    | cons i l ih =>
      intro hl W
      have hi := hl i (by simp)
      have ih' := ih (fun j hj => hl j (by simp [hj])) W
      simp only [List.forIn_cons, Sem.run_bind, Nat.mul_one, hx i hi, hy i hi, Result.andThen_ok, hD]
      by_cases h : f i = g i
      · simp [h] at ih' ⊢
        exact ih'
      · simp [h]
  simp only [Op.equalIn, Sem.run_bind, run_underlying ht, Result.andThen_ok, hs]
  rw [Std.Legacy.Range.forIn_eq_forIn_range']
  have k2 := key (List.range' 0 len 1) (by intro i hi; simp at hi; omega) w
  simp only [Std.Legacy.Range.size]
  rw [show (len - 0 + 1 - 1) / 1 = len by omega, k2]
  by_cases h : ∀ i, i < len → f i = g i
  · have h1 : ∀ i ∈ List.range' 0 len, f i = g i := fun i hi => h i (by simp at hi; omega)
    rw [if_pos h1]
    simp only [Result.andThen_ok, Sem.run_pure]
    rw [decide_eq_true h]
  · have h1 : ¬ ∀ i ∈ List.range' 0 len, f i = g i := fun hh => h fun i hi => hh i (by simp; omega)
    rw [if_neg h1]
    simp only [Result.andThen_ok, Sem.run_pure]
    rw [decide_eq_false h]
theorem part_kval (k : Nat × List (Nat × Nat)) (i : Nat) (hi : i < 14) (W : World) : (part 3 #[.int .i64 (kn k 0 : Nat), .int .i64 (kn k 1 : Nat), .int .i64 (kn k 2 : Nat), .int .i64 (kn k 3 : Nat), .int .i64 (kn k 4 : Nat), .int .i64 (kn k 5 : Nat), .int .i64 (kn k 6 : Nat), .int .i64 (kn k 7 : Nat), .int .i64 (kn k 8 : Nat), .int .i64 (kn k 9 : Nat), .int .i64 (kn k 10 : Nat), .int .i64 (kn k 11 : Nat), .int .i64 (kn k 12 : Nat), .int .i64 (kn k 13 : Nat)] i).run Tryz.prog W = .ok (.int .i64 (kn k i : Nat)) W := by
  obtain rfl | rfl | rfl | rfl | rfl | rfl | rfl | rfl | rfl | rfl | rfl | rfl | rfl | rfl : i = 0 ∨ i = 1 ∨ i = 2 ∨ i = 3 ∨ i = 4 ∨ i = 5 ∨ i = 6 ∨ i = 7 ∨ i = 8 ∨ i = 9 ∨ i = 10 ∨ i = 11 ∨ i = 12 ∨ i = 13 := by omega
  all_goals go_simp
set_option maxRecDepth 200000 in
theorem equal_keys {k q : Nat × List (Nat × Nat)} (hk : k.2.length ≤ 6) (hq : q.2.length ≤ 6) (W : World) : (Op.equalIn 10000 78 (.agg #[.int .i64 (kn q 0 : Nat), .int .i64 (kn q 1 : Nat), .int .i64 (kn q 2 : Nat), .int .i64 (kn q 3 : Nat), .int .i64 (kn q 4 : Nat), .int .i64 (kn q 5 : Nat), .int .i64 (kn q 6 : Nat), .int .i64 (kn q 7 : Nat), .int .i64 (kn q 8 : Nat), .int .i64 (kn q 9 : Nat), .int .i64 (kn q 10 : Nat), .int .i64 (kn q 11 : Nat), .int .i64 (kn q 12 : Nat), .int .i64 (kn q 13 : Nat)]) (.agg #[.int .i64 (kn k 0 : Nat), .int .i64 (kn k 1 : Nat), .int .i64 (kn k 2 : Nat), .int .i64 (kn k 3 : Nat), .int .i64 (kn k 4 : Nat), .int .i64 (kn k 5 : Nat), .int .i64 (kn k 6 : Nat), .int .i64 (kn k 7 : Nat), .int .i64 (kn k 8 : Nat), .int .i64 (kn k 9 : Nat), .int .i64 (kn k 10 : Nat), .int .i64 (kn k 11 : Nat), .int .i64 (kn k 12 : Nat), .int .i64 (kn k 13 : Nat)])).run Tryz.prog W = .ok (decide (q = k)) W := by
  have h := run_equalIn_ints (P := Tryz.prog) 9999 78 3 14 #[.int .i64 (kn q 0 : Nat), .int .i64 (kn q 1 : Nat), .int .i64 (kn q 2 : Nat), .int .i64 (kn q 3 : Nat), .int .i64 (kn q 4 : Nat), .int .i64 (kn q 5 : Nat), .int .i64 (kn q 6 : Nat), .int .i64 (kn q 7 : Nat), .int .i64 (kn q 8 : Nat), .int .i64 (kn q 9 : Nat), .int .i64 (kn q 10 : Nat), .int .i64 (kn q 11 : Nat), .int .i64 (kn q 12 : Nat), .int .i64 (kn q 13 : Nat)] #[.int .i64 (kn k 0 : Nat), .int .i64 (kn k 1 : Nat), .int .i64 (kn k 2 : Nat), .int .i64 (kn k 3 : Nat), .int .i64 (kn k 4 : Nat), .int .i64 (kn k 5 : Nat), .int .i64 (kn k 6 : Nat), .int .i64 (kn k 7 : Nat), .int .i64 (kn k 8 : Nat), .int .i64 (kn k 9 : Nat), .int .i64 (kn k 10 : Nat), .int .i64 (kn k 11 : Nat), .int .i64 (kn k 12 : Nat), .int .i64 (kn k 13 : Nat)] (fun i => ((kn q i : Nat) : Int)) (fun i => ((kn k i : Nat) : Int)) (by kernel_rfl) (fun a b W => run_equalIn_int W 9998 3 .i64 .i64 a b (by kernel_rfl)) (fun W => by kernel_rfl) (fun i hi W => part_kval q i hi W) (fun i hi W => part_kval k i hi W) W
  rw [h]
  congr 1
  by_cases e : q = k
  · subst e
    rw [decide_eq_true rfl, decide_eq_true (fun _ _ => rfl)]
  · rw [decide_eq_false e, decide_eq_false (fun hh => e (kn_inj hq hk fun i hi => by have := hh i hi; omega))]
theorem ky_len {s inp : ByteArray} {fuel d : Nat} {k : Nat × List (Nat × Nat)} (h : ky s fuel d inp = some k) : k.2.length ≤ d := by
  obtain ⟨-, rfl⟩ := ky_some h
  simp [List.length_take]; omega

set_option maxHeartbeats 1600000 in
set_option maxRecDepth 100000 in
theorem crashesSo_any (s inp : ByteArray) (fuel d B : Nat) (k : Nat × List (Nat × Nat)) (w : World) (hc : Im.chk s = (0, 0)) (hi : inp.size ≤ 24) (hf : fuel ≤ 2000) (hd : d ≤ 6) (hk : k.2.length ≤ 6) (hS : SetM s fuel d B w) :
    Calls Tryz.prog 82 #[.pointer (some ⟨B, 0, none⟩), .string inp, kval k] w fun e w' => e = .returned (.bool (hit s fuel d k inp)) ∧ Below w.heap.size w w' := by
  obtain ⟨hh, HH⟩ : ∃ hh, Hid (hit s fuel d k inp = hh) := ⟨_, rfl⟩
  rw [HH.out]
  have HS : Hid (SetM s fuel d B w) := hS
  clear hS
  unfold kval
  go_enter Tryz.func82, Tryz.ntmps82
  go_wp2_with fail
  refine (crash_any s inp fuel d B _ hc hi hf hd (HS.out.below ((Below.refl _ _).alloc (Nat.le_refl _) _))).mono ?_
  rintro e w1 ⟨hb1, hm⟩
  have HB : Hid (Below w.heap.size w w1) := below_new hb1
  have hz1 : w.heap.size < w1.heap.size := by have := hb1.size; simp at this; omega
  have hzn : w.heap.size ≠ w1.heap.size := Nat.ne_of_lt hz1
  have c1 := (hb1.block w.heap.size (by simp)).trans (rheap_new _ _)
  cases hq : ky s fuel d inp with
  | none =>
    rw [hq] at hm
    subst hm
    have HF : Hid (hh = false) := by
      show hh = false
      rw [← HH.out]; unfold hit; rw [hq]; simp
    clear hb1 c1 HS
    unfold kz
    go_wp2
    go_ret
    exact ⟨by rw [HF.out]; first | done | rfl, HB.out.alloc (Nat.le_of_lt hz1) _⟩
  | some q =>
    rw [hq] at hm
    subst hm
    have hq6 : q.2.length ≤ 6 := Nat.le_trans (ky_len hq) hd
    have HF : Hid (hh = decide (q = k)) := by
      show hh = decide (q = k)
      rw [← HH.out]; unfold hit; rw [hq]; simp
    have hwc : ∀ o, o < 14 → w1.cell? ⟨w.heap.size, o, none⟩ = some (.int .i64 (kn k o : Nat)) := by
      intro o ho
      refine rcell_of c1 ?_
      obtain rfl | rfl | rfl | rfl | rfl | rfl | rfl | rfl | rfl | rfl | rfl | rfl | rfl | rfl : o = 0 ∨ o = 1 ∨ o = 2 ∨ o = 3 ∨ o = 4 ∨ o = 5 ∨ o = 6 ∨ o = 7 ∨ o = 8 ∨ o = 9 ∨ o = 10 ∨ o = 11 ∨ o = 12 ∨ o = 13 := by omega
      all_goals rfl
    have heq := equal_keys hk hq6
    rw [← HF.out] at heq
    clear hb1 c1 HS
    unfold kval
    go_wp2
    go_ret
    exact ⟨rfl, HB.out.alloc (Nat.le_of_lt hz1) _⟩
end Go.Proofs.YtjhjkdcophcgaaaGreatDoor
