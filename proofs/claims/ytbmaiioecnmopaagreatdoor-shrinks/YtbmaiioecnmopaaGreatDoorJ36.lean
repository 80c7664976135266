/-
  ShC, ShE, ShF, ShH, ShG: THESE TEXTS, JOINED. By the verifier of the loop 'triage'.
-/
import Derived.Shelf.LaysM
import Derived.Shelf.Strconv.Clone
import Derived.Test.YtbmaiioecnmopaaGreatDoorProg
import Derived.WalkKit
import Derived.Test.YtbmaiioecnmopaaGreatDoorJ35
import Derived.Test.YtbmaiioecnmopaaGreatDoorJ32
import Derived.Test.YtbmaiioecnmopaaGreatDoorJ05
/-
  strings.Clone, BY THE SHELF's CONTRACT of internal/stringslite.Clone. By the verifier of the loop 'triage'.
-/
namespace Go.Proofs.YtbmaiioecnmopaaGreatDoor
open Go.RowKit Go.Shelf

def cloneRen : Ren := ⟨fun | 316 => 84 | n => n, fun | 9 => 9 | 3 => 3 | 4 => 4 | 37 => 120 | 0 => 0 | 127 => 203 | 5 => 5 | n => n, fun | n => n⟩
theorem cloneLays : LaysM.n316 Tryz.prog cloneRen := {
  mixed := by kernel_rfl
  f316 := Tryz.func84.trans (congrArg some (by kernel_rfl))
  t0 := Tryz.underlying0
  a0 := Tryz.isAgg0
  z0 := Tryz.sizeOf0
  v0 := Tryz.zeroValue0
  t3 := Tryz.underlying3
  a3 := Tryz.isAgg3
  z3 := Tryz.sizeOf3
  v3 := Tryz.zeroValue3
  t4 := Tryz.underlying4
  a4 := Tryz.isAgg4
  z4 := Tryz.sizeOf4
  v4 := Tryz.zeroValue4
  t9 := Tryz.underlying9
  a9 := Tryz.isAgg9
  z9 := Tryz.sizeOf9
  v9 := Tryz.zeroValue9
  t37 := Tryz.underlying120
  a37 := Tryz.isAgg120
  z37 := Tryz.sizeOf120
  v37 := Tryz.zeroValue120
  t127 := Tryz.underlying203
  a127 := Tryz.isAgg203
  z127 := Tryz.sizeOf203
  v127 := Tryz.zeroValue203
  t5 := Tryz.underlying5
  a5 := Tryz.isAgg5
  z5 := Tryz.sizeOf5
  v5 := Tryz.zeroValue5
  i0 := by kernel_rfl
  i3 := by kernel_rfl
  i4 := by kernel_rfl
  i5 := by kernel_rfl
  i9 := by kernel_rfl
  i37 := by kernel_rfl
  i127 := by kernel_rfl }
theorem lowClone_any (t : ByteArray) (w : World) (h : t.size ≤ 100000) : Calls Tryz.prog 84 #[.string t] w fun e w' => e = .returned (.string t) ∧ Below w.heap.size w w' := Any.stringslite_Clone cloneLays t w (by omega)

set_option maxHeartbeats 400000 in
theorem clone_str (t : ByteArray) (w : World) (h : t.size ≤ 100000) : Calls Tryz.prog 54 #[.string t] w fun e w' => e = .returned (.string t) ∧ Below w.heap.size w w' := by
  go_enter Tryz.func54, Tryz.ntmps54
  go_wp2_with fail
  refine (lowClone_any t _ h).mono ?_
  rintro e w1 ⟨rfl, hb⟩
  have HB : Hid (Below w.heap.size w w1) := hb
  clear hb
  go_wp2
  go_ret
  exact ⟨rfl, HB.out⟩
end Go.Proofs.YtbmaiioecnmopaaGreatDoor

/-
  THE PROGRAM's SIDE (package triage): round. By the verifier of the loop 'triage'.
-/
namespace Go.Proofs.YtbmaiioecnmopaaGreatDoor
open Go.RowKit

/-- the block of a key. -/
def WantM (b : Nat) (k : Nat × List (Nat × Nat)) (w : World) : Prop := b < w.heap.size ∧ ∀ o, o < 14 → w.cell? ⟨b, o, none⟩ = some (.int .i64 (kn k o : Nat))
theorem WantM.below {b : Nat} {k : Nat × List (Nat × Nat)} {w w' : World} (h : WantM b k w) (hb : Below w.heap.size w w') : WantM b k w' := ⟨Nat.lt_of_lt_of_le h.1 hb.size, fun o ho => (hb.cell (p := ⟨b, o, none⟩) h.1).trans (h.2 o ho)⟩
theorem wantM_new (k : Nat × List (Nat × Nat)) (w : World) (t : TypeId) : WantM w.heap.size k (w.alloc (.cells #[.int .i64 (kn k 0 : Nat), .int .i64 (kn k 1 : Nat), .int .i64 (kn k 2 : Nat), .int .i64 (kn k 3 : Nat), .int .i64 (kn k 4 : Nat), .int .i64 (kn k 5 : Nat), .int .i64 (kn k 6 : Nat), .int .i64 (kn k 7 : Nat), .int .i64 (kn k 8 : Nat), .int .i64 (kn k 9 : Nat), .int .i64 (kn k 10 : Nat), .int .i64 (kn k 11 : Nat), .int .i64 (kn k 12 : Nat), .int .i64 (kn k 13 : Nat)] t)) := by
  refine ⟨by simp, ?_⟩
  intro o ho
  refine rcell_of (rheap_new _ _) ?_
  obtain rfl | rfl | rfl | rfl | rfl | rfl | rfl | rfl | rfl | rfl | rfl | rfl | rfl | rfl : o = 0 ∨ o = 1 ∨ o = 2 ∨ o = 3 ∨ o = 4 ∨ o = 5 ∨ o = 6 ∨ o = 7 ∨ o = 8 ∨ o = 9 ∨ o = 10 ∨ o = 11 ∨ o = 12 ∨ o = 13 := by omega
  all_goals rfl

theorem beqL_false {a b : ByteArray} (h : a ≠ b) : (a.toList == b.toList) = false := by
  rw [beq_eq_false_iff_ne]
  intro e
  apply h
  apply Sh.ext_list
  rwa [ByteArray.toList_eq, ByteArray.toList_eq] at e
theorem beqB_false {a b : ByteArray} (h : a ≠ b) : (a == b) = false := by rw [beq_toListBytes]; exact beqL_false h
theorem beqB_true {a b : ByteArray} (h : a = b) : (a == b) = true := by rw [beq_toListBytes, h]; simp
theorem beqL_true {a b : ByteArray} (h : a = b) : (a.toList == b.toList) = true := by rw [h]; simp

set_option maxHeartbeats 3200000 in
set_option maxRecDepth 100000 in
theorem round_any (s x t0 : ByteArray) (fuel d B : Nat) (k : Nat × List (Nat × Nat)) (w : World) (hc : Im.chk s = (0, 0)) (hx : x.size ≤ 24) (hf : fuel ≤ 2000) (hd : d ≤ 6) (hk : k.2.length ≤ 6) (hS : SetM s fuel d B w) (hV : Sh.Inv (hit s fuel d k) x t0) :
    Calls Tryz.prog 53 #[.pointer (some ⟨B, 0, none⟩), .string t0, kval k] w fun e w' => e = .returned (.string (Sh.rnd (hit s fuel d k) t0.size t0)) ∧ Below w.heap.size w w' := by
  obtain ⟨R, HR⟩ : ∃ R, Hid (Sh.rnd (hit s fuel d k) t0.size t0 = R) := ⟨_, rfl⟩
  rw [HR.out]
  have HS : Hid (SetM s fuel d B w) := hS
  have HV : Hid (Sh.Inv (hit s fuel d k) x t0) := hV
  have ht0 : t0.size ≤ 24 := Nat.le_trans hV.size hx
  have HW0 : Hid (WantM w.heap.size k (w.alloc (.cells #[.int .i64 (kn k 0 : Nat), .int .i64 (kn k 1 : Nat), .int .i64 (kn k 2 : Nat), .int .i64 (kn k 3 : Nat), .int .i64 (kn k 4 : Nat), .int .i64 (kn k 5 : Nat), .int .i64 (kn k 6 : Nat), .int .i64 (kn k 7 : Nat), .int .i64 (kn k 8 : Nat), .int .i64 (kn k 9 : Nat), .int .i64 (kn k 10 : Nat), .int .i64 (kn k 11 : Nat), .int .i64 (kn k 12 : Nat), .int .i64 (kn k 13 : Nat)] 78))) := wantM_new k w 78
  clear hS hV
  unfold kval
  go_enter Tryz.func53, Tryz.ntmps53
  go_wp2
  go_loopw [1, 7] (fun txt i wr => ∃ (iv : Int) (j : Nat) (t : ByteArray), txt = .string t ∧ i = .int .i64 iv ∧ iv + 1 = (j : Int) ∧ j ≤ t.size ∧ Sh.Inv (hit s fuel d k) x t ∧ Sh.rnd (hit s fuel d k) j t = R ∧ SetM s fuel d B wr ∧ WantM w.heap.size k wr ∧ Below w.heap.size w wr) (fun _ i _ => (intOf i + 1).toNat)
  case atStart => exact ⟨_, t0.size, t0, rfl, rfl, by omega, Nat.le_refl _, HV.out, HR.out, HS.out.below ((Below.refl _ _).alloc (Nat.le_refl _) _), HW0.out, (Below.refl _ _).alloc (Nat.le_refl _) _⟩
  case round =>
    obtain ⟨iv, j, t, rfl, rfl, hij, hjt, hV, hR, hS, hW, hB⟩ := hrel
    cases j with
    | zero =>
      obtain rfl : iv = -1 := by omega
      have HRR : Hid (t = R) := hR
      have HB : Hid (Below w.heap.size w wr) := hB
      clear hV hR hS hW hB
      go_wp2
      go_ret
      exact ⟨by rw [← HRR.out]; first | done | rfl, HB.out⟩
    | succ m =>
      obtain rfl : iv = (m : Int) := by omega
      have hm : m < t.size := by omega
      have ht : t.size ≤ 24 := Nat.le_trans hV.size hx
      obtain ⟨hI, hsz, -⟩ := Sh.inv_stp hV m hm
      have HI : Hid (Sh.Inv (hit s fuel d k) x (Sh.stp (hit s fuel d k) t m)) := hI
      have HRR : Hid (Sh.rnd (hit s fuel d k) m (Sh.stp (hit s fuel d k) t m) = R) := hR
      have HSr : Hid (SetM s fuel d B wr) := hS
      have HWr : Hid (WantM w.heap.size k wr) := hW
      have HB : Hid (Below w.heap.size w wr) := hB
      have hcs : (Sh.cut t m).size ≤ 24 := by rw [Sh.cut_size t m hm]; omega
      have hbs : (Sh.blk t m).size ≤ 24 := by rw [Sh.blk_size t m hm]; omega
      clear hV hR hS hW hB hI
      go_wp2_with fail
      refine (without_any t m _ hm ht).mono ?_
      rintro e w1 ⟨rfl, hb1⟩
      have HS1 : Hid (SetM s fuel d B w1) := HSr.out.below hb1
      have HW1 : Hid (WantM w.heap.size k w1) := HWr.out.below hb1
      have HB1 : Hid (Below w.heap.size w w1) := HB.out.trans (hb1.mono HB.out.size)
      have hwc := HW1.out.2
      have hzw := HW1.out.1
      clear hb1
      go_wp2_with fail
      refine (crashesSo_any s (Sh.cut t m) fuel d B k _ hc hcs hf hd hk HS1.out).mono ?_
      rintro e w2 ⟨rfl, hb2⟩
      have HS2 : Hid (SetM s fuel d B w2) := HS1.out.below hb2
      have HW2 : Hid (WantM w.heap.size k w2) := HW1.out.below hb2
      have HB2 : Hid (Below w.heap.size w w2) := HB1.out.trans (hb2.mono HB1.out.size)
      clear hb2 hwc hzw HS1 HW1 HB1 HSr HWr HB
      cases hh : hit s fuel d k (Sh.cut t m) with
      | true =>
        have hst : Sh.stp (hit s fuel d k) t m = Sh.cut t m := by unfold Sh.stp; rw [if_pos hh]
        rw [hst] at HI HRR hsz
        clear hst
        go_wp2
        go_roundw
        case rel => exact ⟨(m : Int) - 1, m, Sh.cut t m, rfl, by go_num, by omega, hsz, HI.out, HRR.out, HS2.out, HW2.out, HB2.out⟩
        case measure => simp [intOf]
      | false =>
        go_wp2_with fail
        refine (blanked_any t m _ hm ht).mono ?_
        rintro e w3 ⟨rfl, hb3⟩
        have HS3 : Hid (SetM s fuel d B w3) := HS2.out.below hb3
        have HW3 : Hid (WantM w.heap.size k w3) := HW2.out.below hb3
        have HB3 : Hid (Below w.heap.size w w3) := HB2.out.trans (hb3.mono HB2.out.size)
        have hwc := HW3.out.2
        have hzw := HW3.out.1
        clear hb3 HS2 HW2 HB2
        by_cases hbt : Sh.blk t m = t
        · have hst : Sh.stp (hit s fuel d k) t m = t := by unfold Sh.stp; rw [if_neg (by rw [hh]; simp), if_neg (fun h => h.1 hbt)]
          rw [hst] at HI HRR hsz
          clear hst
          have hb0 := beqL_true hbt
          have hb1 := beqB_true hbt
          go_wp2
          go_roundw
          case rel => exact ⟨(m : Int) - 1, m, t, rfl, by go_num, by omega, hsz, HI.out, HRR.out, HS3.out, HW3.out, HB3.out⟩
          case measure => simp [intOf]
        · have hb0 := beqL_false hbt
          have hb1 := beqB_false hbt
          go_wp2_with fail
          refine (crashesSo_any s (Sh.blk t m) fuel d B k _ hc hbs hf hd hk HS3.out).mono ?_
          rintro e w4 ⟨rfl, hb4⟩
          have HS4 : Hid (SetM s fuel d B w4) := HS3.out.below hb4
          have HW4 : Hid (WantM w.heap.size k w4) := HW3.out.below hb4
          have HB4 : Hid (Below w.heap.size w w4) := HB3.out.trans (hb4.mono HB3.out.size)
          clear hb4 hwc hzw HS3 HW3 HB3
          cases hg : hit s fuel d k (Sh.blk t m) with
          | true =>
            have hst : Sh.stp (hit s fuel d k) t m = Sh.blk t m := by unfold Sh.stp; rw [if_neg (by rw [hh]; simp), if_pos ⟨hbt, hg⟩]
            rw [hst] at HI HRR hsz
            clear hst
            go_wp2
            go_roundw
            case rel => exact ⟨(m : Int) - 1, m, Sh.blk t m, rfl, by go_num, by omega, hsz, HI.out, HRR.out, HS4.out, HW4.out, HB4.out⟩
            case measure => simp [intOf]
          | false =>
            have hst : Sh.stp (hit s fuel d k) t m = t := by unfold Sh.stp; rw [if_neg (by rw [hh]; simp), if_neg (fun h => by rw [hg] at h; simp at h)]
            rw [hst] at HI HRR hsz
            clear hst
            go_wp2
            go_roundw
            case rel => exact ⟨(m : Int) - 1, m, t, rfl, by go_num, by omega, hsz, HI.out, HRR.out, HS4.out, HW4.out, HB4.out⟩
            case measure => simp [intOf]
end Go.Proofs.YtbmaiioecnmopaaGreatDoor

/-
  THE PROGRAM's SIDE (package triage): shrink, Shrink. By the verifier of the loop 'triage'.
-/
namespace Go.Proofs.YtbmaiioecnmopaaGreatDoor
open Go.RowKit

/-- how much there is left to leave out. -/
def muV : Value → Nat
  | .string t => Sh.muB t
  | _ => 0

set_option maxHeartbeats 1600000 in
set_option maxRecDepth 100000 in
theorem shrink_any (s x : ByteArray) (fuel d B : Nat) (k : Nat × List (Nat × Nat)) (w : World) (hc : Im.chk s = (0, 0)) (hx : x.size ≤ 24) (hf : fuel ≤ 2000) (hd : d ≤ 6) (hk : k.2.length ≤ 6) (hS : SetM s fuel d B w) (hh : hit s fuel d k x = true) :
    Calls Tryz.prog 28 #[.pointer (some ⟨B, 0, none⟩), .string x, kval k] w fun e w' => (∃ y, e = .returned (.string y) ∧ Sh.Done (hit s fuel d k) x y) ∧ Below w.heap.size w w' := by
  have HS : Hid (SetM s fuel d B w) := hS
  have HV : Hid (Sh.Inv (hit s fuel d k) x x) := ⟨Sh.Frm.refl _, hh⟩
  have HW0 : Hid (WantM w.heap.size k (w.alloc (.cells #[.int .i64 (kn k 0 : Nat), .int .i64 (kn k 1 : Nat), .int .i64 (kn k 2 : Nat), .int .i64 (kn k 3 : Nat), .int .i64 (kn k 4 : Nat), .int .i64 (kn k 5 : Nat), .int .i64 (kn k 6 : Nat), .int .i64 (kn k 7 : Nat), .int .i64 (kn k 8 : Nat), .int .i64 (kn k 9 : Nat), .int .i64 (kn k 10 : Nat), .int .i64 (kn k 11 : Nat), .int .i64 (kn k 12 : Nat), .int .i64 (kn k 13 : Nat)] 78))) := wantM_new k w 78
  clear hS hh
  unfold kval
  go_enter Tryz.func28, Tryz.ntmps28
  go_wp2
  go_loopw [1] (fun txt wr => ∃ t : ByteArray, txt = .string t ∧ Sh.Inv (hit s fuel d k) x t ∧ SetM s fuel d B wr ∧ WantM w.heap.size k wr ∧ Below w.heap.size w wr) (fun txt _ => muV txt)
  case atStart => exact ⟨x, rfl, HV.out, HS.out.below ((Below.refl _ _).alloc (Nat.le_refl _) _), HW0.out, (Below.refl _ _).alloc (Nat.le_refl _) _⟩
  case round =>
    obtain ⟨t, rfl, hV, hS, hW, hB⟩ := hrel
    have HVt : Hid (Sh.Inv (hit s fuel d k) x t) := hV
    have HSr : Hid (SetM s fuel d B wr) := hS
    have HWr : Hid (WantM w.heap.size k wr) := hW
    have HB : Hid (Below w.heap.size w wr) := hB
    have hwc := hW.2
    have hzw := hW.1
    have ht : t.size ≤ 24 := Nat.le_trans hV.size hx
    obtain ⟨hI, -, hmu, -⟩ := Sh.inv_rnd t.size t hV (Nat.le_refl _)
    have HI : Hid (Sh.Inv (hit s fuel d k) x (Sh.rnd (hit s fuel d k) t.size t)) := hI
    have HD : Hid (Sh.rnd (hit s fuel d k) t.size t = t → Sh.Done (hit s fuel d k) x t) := fun h => Sh.done_of hV h
    have HMU : Hid (Sh.rnd (hit s fuel d k) t.size t = t ∨ Sh.muB (Sh.rnd (hit s fuel d k) t.size t) < Sh.muB t) := hmu
    clear hV hS hW hB hI hmu
    go_wp2_with fail
    refine (round_any s x t fuel d B k _ hc hx hf hd hk HSr.out HVt.out).mono ?_
    rintro e w1 ⟨rfl, hb1⟩
    have HS1 : Hid (SetM s fuel d B w1) := HSr.out.below hb1
    have HW1 : Hid (WantM w.heap.size k w1) := HWr.out.below hb1
    have HB1 : Hid (Below w.heap.size w w1) := HB.out.trans (hb1.mono HB.out.size)
    clear hb1 hwc hzw HSr HWr HB
    generalize Sh.rnd (hit s fuel d k) t.size t = r at *
    by_cases hrt : r = t
    · have hb0 := beqL_true hrt
      have hb1 := beqB_true hrt
      have HDD : Hid (Sh.Done (hit s fuel d k) x t) := HD.out hrt
      go_wp2_with fail
      refine (clone_str t _ (by omega)).mono ?_
      rintro e w2 ⟨rfl, hb2⟩
      have HB2 : Hid (Below w.heap.size w w2) := HB1.out.trans (hb2.mono HB1.out.size)
      clear hb2
      go_wp2
      go_ret
      exact ⟨⟨t, rfl, HDD.out⟩, HB2.out⟩
    · have hb0 := beqL_false hrt
      have hb1 := beqB_false hrt
      have HM : Hid (Sh.muB r < Sh.muB t) := HMU.out.resolve_left hrt
      go_wp2
      go_roundw
      case rel => exact ⟨r, rfl, HI.out, HS1.out, HW1.out, HB1.out⟩
      case measure => exact HM.out

/-- what Shrink answers. -/
def ShrinkPost (s : ByteArray) (fuel depth : Int) (inp : ByteArray) (w w' : World) (e : Ending) : Prop :=
  Below w.heap.size w w' ∧
  (((askP s fuel depth [inp]).1 ≠ 0 ∧ e = .returned (.tuple #[.string ⟨#[]⟩, .int .i64 (askP s fuel depth [inp]).1, .int .i64 (askP s fuel depth [inp]).2])) ∨
   (AskOk s fuel depth [inp] ∧ ky s fuel.toNat depth.toNat inp = none ∧ e = .returned (.tuple #[.string ⟨#[]⟩, .int .i64 7, .int .i64 0])) ∨
   (AskOk s fuel depth [inp] ∧ ∃ k y, ky s fuel.toNat depth.toNat inp = some k ∧ Sh.Done (hit s fuel.toNat depth.toNat k) inp y ∧ e = .returned (.tuple #[.string y, .int .i64 0, .int .i64 0])))

set_option maxHeartbeats 1600000 in
set_option maxRecDepth 100000 in
theorem codeShrink_any (s inp : ByteArray) (fuel depth : Int) (w : World) (hG : Glob w) (hm : inp.size ≤ maxLen) :
    Calls Tryz.prog 14 #[.string s, .int .i64 fuel, .int .i64 depth, .string inp] w fun e w' => ShrinkPost s fuel depth inp w w' e := by
  have HG : Hid (Glob w) := hG
  have HI : Hid (Ins [inp] (.slice (some ⟨w.heap.size, 0, none⟩) 1 1) (w.alloc (.cells #[.string inp] 9))) := ins_one inp w _ hm
  clear hG
  go_enter Tryz.func14, Tryz.ntmps14
  go_wp2_with fail
  refine (setUp_any s fuel depth [inp] _ _ (HG.out.below ((Below.refl _ _).alloc (Nat.le_refl _) _)) HI.out).mono ?_
  rintro e w1 ⟨hb1, (⟨hne, rfl⟩ | ⟨hok, bp, bs, bc, cs, rfl, hM, hcs, hcm⟩)⟩
  · have HB : Hid (Below w.heap.size w w1) := below_new hb1
    have hb : ((askP s fuel depth [inp]).1 == 0) = false := by simpa using hne
    have HP : Hid (∀ o, ShrinkPost s fuel depth inp w (w1.alloc o) (.returned (.tuple #[.string ⟨#[]⟩, .int .i64 (askP s fuel depth [inp]).1, .int .i64 (askP s fuel depth [inp]).2]))) := fun o => ⟨HB.out.alloc HB.out.size _, Or.inl ⟨hne, rfl⟩⟩
    clear hb1 HI
    generalize (askP s fuel depth [inp]).1 = c at *
    generalize (askP s fuel depth [inp]).2 = p at *
    go_wp2
    go_ret3
    exact HP.out _
  · have HB : Hid (Below w.heap.size w w1) := below_new hb1
    have HOK : Hid (AskOk s fuel depth [inp]) := hok
    obtain ⟨fu, rfl⟩ : ∃ fu : Nat, fuel = (fu : Int) := ⟨fuel.toNat, by have := HOK.out.fu; omega⟩
    obtain ⟨d, rfl⟩ : ∃ d : Nat, depth = (d : Int) := ⟨depth.toNat, by have := HOK.out.de; omega⟩
    have hf : fu ≤ 2000 := by have := HOK.out.fu; omega
    have hd : d ≤ 6 := by have := HOK.out.de; omega
    have hi : inp.size ≤ 24 := HOK.out.sz inp (by simp)
    have hc := HOK.out.chk
    have HSM : Hid (SetM s fu d w1.heap.size (w1.alloc (.cells #[.slice (some ⟨bs, 0, none⟩) (Im.bt s 0 + 1) cs, .slice (some ⟨bc, 0, none⟩) s.size s.size, .int .i64 (fu : Nat), .int .i64 (d : Nat)] 66))) := ⟨bp, bs, bc, cs, hM.below ((Below.refl _ _).alloc (Nat.le_refl _) _), hcs, hcm, rheap_new _ _⟩
    clear hb1 HI hM hok
    go_wp2_with fail
    refine (crash_any s inp fu d w1.heap.size _ hc hi hf hd HSM.out).mono ?_
    rintro e w2 ⟨hb2, hm2⟩
    have HS2 : Hid (SetM s fu d w1.heap.size w2) := HSM.out.below hb2
    have HB2 : Hid (Below w.heap.size w w2) := (HB.out.alloc HB.out.size _).trans (hb2.mono (Nat.le_trans HB.out.size (by simp)))
    clear hb2 HSM
    cases hq : ky s fu d inp with
    | none =>
      rw [hq] at hm2
      subst hm2
      have HP : Hid (∀ o, ShrinkPost s fu d inp w (w2.alloc o) (.returned (.tuple #[.string ⟨#[]⟩, .int .i64 7, .int .i64 0]))) := fun o => ⟨HB2.out.alloc HB2.out.size _, Or.inr (Or.inl ⟨HOK.out, hq, rfl⟩)⟩
      unfold kz
      go_wp2
      go_ret3
      exact HP.out _
    | some k =>
      rw [hq] at hm2
      subst hm2
      have hk6 : k.2.length ≤ 6 := Nat.le_trans (ky_len hq) hd
      have hht : hit s fu d k inp = true := by unfold hit; rw [hq]; simp
      unfold kval
      go_wp2_with fail
      refine (shrink_any s inp fu d w1.heap.size k _ hc hi hf hd hk6 (HS2.out.below ((Below.refl _ _).alloc (Nat.le_refl _) _)) hht).mono ?_
      rintro e w3 ⟨⟨y, rfl, hy⟩, hb3⟩
      have HP : Hid (ShrinkPost s fu d inp w w3 (.returned (.tuple #[.string y, .int .i64 0, .int .i64 0]))) := ⟨HB2.out.trans ((below_new hb3).mono HB2.out.size), Or.inr (Or.inr ⟨HOK.out, k, y, hq, hy, rfl⟩)⟩
      clear hb3 hy
      go_wp2
      go_ret3
      exact HP.out
end Go.Proofs.YtbmaiioecnmopaaGreatDoor

/-
  THE DOCUMENT's SIDE (package triageref): Calm. By the verifier of the loop 'triage'.
-/
namespace Go.Proofs.YtbmaiioecnmopaaGreatDoor
open Go.RowKit

set_option maxHeartbeats 1600000 in
theorem calm_any (s inp : ByteArray) (fuel depth : Int) (w : World) (hm : inp.size ≤ maxLen) :
    Calls Tryz.prog 15 #[.string s, .int .i64 fuel, .int .i64 depth, .string inp] w fun e w' => CalmPost s fuel depth inp w w' e := by
  have hI := ins_one inp (w.alloc (.cells #[.int .i64 0, .slice none 0 0] 51)) 9 hm
  simp only [World.size_alloc] at hI
  have HI : Hid (Ins [inp] (.slice (some ⟨w.heap.size + 1, 0, none⟩) 1 1) ((w.alloc (.cells #[.int .i64 0, .slice none 0 0] 51)).alloc (.cells #[.string inp] 9))) := hI
  clear hI
  go_enter Tryz.func15, Tryz.ntmps15
  go_wp2_with fail
  refine (asked_any s fuel depth [inp] _ _ HI.out).mono ?_
  rintro e w1 ⟨rfl, hb1⟩
  have c1 := (two_new hb1).1
  have HB : Hid (Below w.heap.size w w1) := below_two hb1
  have hz1 : w.heap.size < w1.heap.size := by have := hb1.size; simp at this; omega
  clear hb1 HI
  by_cases h : (askP s fuel depth [inp]).1 = 0
  · have HOK : Hid (AskOk s fuel depth [inp]) := askP_zero h
    have ha := HOK.out.ask
    rw [ha]
    obtain ⟨fu, rfl⟩ : ∃ fu : Nat, fuel = (fu : Int) := ⟨fuel.toNat, by have := HOK.out.fu; omega⟩
    obtain ⟨d, rfl⟩ : ∃ d : Nat, depth = (d : Int) := ⟨depth.toNat, by have := HOK.out.de; omega⟩
    have hf : fu ≤ 2000 := by have := HOK.out.fu; omega
    have hd : d ≤ 6 := by have := HOK.out.de; omega
    have hi : inp.size ≤ 24 := HOK.out.sz inp (by simp)
    have hc := HOK.out.chk
    have hst := rep_sts (s := s) (inp := inp) (fuel := fu) hc hi hf
    clear h ha
    go_wp2_with fail
    refine (play_rep s inp fu _ hc hi hf).mono ?_
    rintro e w2 ⟨v28, v29, rfl, h28, h29, hb2⟩
    have HKY : Hid (ky s fu d inp = kyR (rep s fu inp) d) := rfl
    have HB2 : Hid (Below w.heap.size w w2) := HB.out.trans (hb2.mono HB.out.size)
    have c2 := (hb2.block w.heap.size hz1).trans c1
    have hz2 : w.heap.size < w2.heap.size := Nat.lt_of_lt_of_le hz1 hb2.size
    have h28' := owns_base (base' := w.heap.size + 1) h28 hz1
    generalize rep s fu inp = p at *
    clear hb2 h28 h29 hc hi hf c1
    go_wp2_with fail
    refine (keyOf_any (w.heap.size + 1) p d v28 v29 _ hd (by omega) h28').mono ?_
    rintro e w3 ⟨hb3, hm3⟩
    have HB3 : Hid (Below w.heap.size w w3) := HB2.out.trans (hb3.mono HB2.out.size)
    have c3 := (hb3.block w.heap.size hz2).trans c2
    have hz3 : w.heap.size < w3.heap.size := Nat.lt_of_lt_of_le hz2 hb3.size
    obtain ⟨⟨d0, d1⟩, ⟨f0, f1⟩⟩ := key2_of c3
    clear hb3 c2 c3
    cases hq : kyR p d with
    | none =>
      rw [hq] at hm3
      subst hm3
      have HQ : Hid (ky s fu d inp = none) := HKY.out.trans hq
      clear h28' HKY
      go_wp2
      exact bodyPost_ret (v := .tuple #[.agg #[.int .i64 0, .slice none 0 0], .int .i64 7, .int .i64 0]) (by simp [results, Tryz.results15, go_sem, d0, d1, hz3]) rfl (calm_none HOK.out HQ.out HB3.out)
    | some q =>
      rw [hq] at hm3
      obtain ⟨v, rfl, hv⟩ := hm3
      have HQ : Hid (ky s fu d inp = some q) := HKY.out.trans hq
      have HV : Hid (KeyV (w.heap.size + 1) w3 q v) := hv
      obtain ⟨u, rfl, hu⟩ := hv
      obtain ⟨a2, cap2, hv2, -, -, -⟩ := owns_shape hu
      subst hv2
      clear h28' HKY hu
      go_wp2
      exact bodyPost_ret (v := .tuple #[.agg #[.int .i64 (q.1 : Nat), .slice a2 q.2.length cap2], .int .i64 0, .int .i64 0]) (by simp [results, Tryz.results15, go_sem, d0, d1, hz3]) rfl (calm_some HOK.out HQ.out HB3.out HV.out)
  · have HQ : Hid (askP s fuel depth [inp] = ((askP s fuel depth [inp]).1, (askP s fuel depth [inp]).2)) := rfl
    have hb : ((askP s fuel depth [inp]).1 == 0) = false := by simpa using h
    obtain ⟨⟨d0, d1⟩, ⟨f0, f1⟩⟩ := key2_of c1
    clear c1
    generalize (askP s fuel depth [inp]).1 = c at *
    generalize (askP s fuel depth [inp]).2 = p at *
    go_wp2
    exact bodyPost_ret (v := .tuple #[.agg #[.int .i64 0, .slice none 0 0], .int .i64 c, .int .i64 p]) (by simp [results, Tryz.results15, go_sem, d0, d1]) rfl (calm_bad HQ.out h HB.out)
end Go.Proofs.YtbmaiioecnmopaaGreatDoor

/-
  THE LAW Shrinks: its walk. By the verifier of the loop 'triage'.
-/
namespace Go.Proofs.YtbmaiioecnmopaaGreatDoor
open Go.RowKit

set_option maxHeartbeats 1600000 in
set_option maxRecDepth 100000 in
theorem shrinks_walk (s inp : ByteArray) (fuel depth : Int) (w : World) (hG : Glob w) (hm : inp.size ≤ maxLen) :
    Calls Tryz.prog 4 #[.string s, .int .i64 fuel, .int .i64 depth, .string inp] w fun e w' => e = .returned (.bool true) ∧ Below w.heap.size w w' := by
  have HG : Hid (Glob w) := hG
  clear hG
  go_enter Tryz.func4, Tryz.ntmps4
  go_wp2_with fail
  refine (codeShrink_any s inp fuel depth _ HG.out hm).mono ?_
  rintro e w1 ⟨hb1, hp1⟩
  have HB1 : Hid (Below w.heap.size w w1) := hb1
  have HP1 : Hid (((askP s fuel depth [inp]).1 ≠ 0 ∧ e = .returned (.tuple #[.string ⟨#[]⟩, .int .i64 (askP s fuel depth [inp]).1, .int .i64 (askP s fuel depth [inp]).2])) ∨
   (AskOk s fuel depth [inp] ∧ ky s fuel.toNat depth.toNat inp = none ∧ e = .returned (.tuple #[.string ⟨#[]⟩, .int .i64 7, .int .i64 0])) ∨
   (AskOk s fuel depth [inp] ∧ ∃ k y, ky s fuel.toNat depth.toNat inp = some k ∧ Sh.Done (hit s fuel.toNat depth.toNat k) inp y ∧ e = .returned (.tuple #[.string y, .int .i64 0, .int .i64 0]))) := hp1
  clear hb1 hp1
  rcases HP1.out with ⟨hne, rfl⟩ | ⟨hok, hky, rfl⟩ | ⟨hok, k, y, hky, hD, rfl⟩
  · clear HP1
    go_wp2_with fail
    refine (calm_any s inp fuel depth _ hm).mono ?_
    rintro e w2 ⟨hb2, (⟨-, rfl⟩ | ⟨hok2, -, -⟩ | ⟨hok2, -⟩)⟩
    · have HB2 : Hid (Below w.heap.size w w2) := HB1.out.trans (hb2.mono HB1.out.size)
      have hb : ((askP s fuel depth [inp]).1 == 0) = false := by simpa using hne
      clear hb2
      generalize (askP s fuel depth [inp]).1 = c at *
      generalize (askP s fuel depth [inp]).2 = p at *
      go_wp2_with (go_at_call 9; refine (num_any c _).mono ?_; rintro e w' ⟨rfl, rfl⟩)
      go_ret
      exact ⟨rfl, HB2.out.alloc HB2.out.size _⟩
    · exact absurd (congrArg Prod.fst hok2.ask) hne
    · exact absurd (congrArg Prod.fst hok2.ask) hne
  · clear HP1
    have HOK : Hid (AskOk s fuel depth [inp]) := hok
    clear hok
    go_wp2_with fail
    refine (calm_any s inp fuel depth _ hm).mono ?_
    rintro e w2 ⟨hb2, (⟨hne, -⟩ | ⟨-, -, rfl⟩ | ⟨-, k, v, hk2, -⟩)⟩
    · exact absurd (congrArg Prod.fst HOK.out.ask) hne
    · have HB2 : Hid (Below w.heap.size w w2) := HB1.out.trans (hb2.mono HB1.out.size)
      clear hb2
      go_wp2_with (go_at_call 9; refine (num_any 7 _).mono ?_; rintro e w' ⟨rfl, rfl⟩)
      go_ret
      exact ⟨rfl, HB2.out.alloc HB2.out.size _⟩
    · rw [hky] at hk2; cases hk2
  · clear HP1
    have HOK : Hid (AskOk s fuel depth [inp]) := hok
    obtain ⟨fu, rfl⟩ : ∃ fu : Nat, fuel = (fu : Int) := ⟨fuel.toNat, by have := hok.fu; omega⟩
    obtain ⟨d, rfl⟩ : ∃ d : Nat, depth = (d : Int) := ⟨depth.toNat, by have := hok.de; omega⟩
    have hf : fu ≤ 2000 := by have := hok.fu; omega
    have hd : d ≤ 6 := by have := hok.de; omega
    have hi : inp.size ≤ 24 := hok.sz inp (by simp)
    have hc := hok.chk
    have hk6 : k.2.length ≤ 6 := Nat.le_trans (ky_len hky) hd
    have HD : Hid (Sh.Done (hit s fu d k) inp y) := hD
    have hyk : ky s fu d inp = some k := hky
    clear hok hD hky
    go_wp2_with fail
    refine (calm_any s inp fu d _ hm).mono ?_
    rintro e w2 ⟨hb2, (⟨hne, -⟩ | ⟨-, hk2, -⟩ | ⟨-, k', v, hk2, rfl, hv⟩)⟩
    · exact absurd (congrArg Prod.fst HOK.out.ask) hne
    · have hk3 : ky s fu d inp = none := hk2
      rw [hyk] at hk3; cases hk3
    · have hk3 : ky s fu d inp = some k' := hk2
      obtain rfl : k = k' := by rw [hyk] at hk3; exact Option.some.inj hk3
      have HB2 : Hid (Below w.heap.size w w2) := HB1.out.trans (hb2.mono HB1.out.size)
      have HV : Hid (KeyV w1.heap.size w2 k v) := hv
      obtain ⟨u, rfl, hu⟩ := hv
      obtain ⟨a1, cap1, hv1, -, -, -⟩ := owns_shape hu
      subst hv1
      clear hb2 hk2 hk3 hu
      go_wp2_with (first
        | (go_at_call 9; refine (num_any 0 _).mono ?_; rintro e w' ⟨rfl, rfl⟩)
        | (go_at_call 16; refine (shrunk_any w1.heap.size s inp y fu d k _ _ hc hi hf hd (by omega) (HV.out.alloc _) HD.out).mono ?_; rintro e w3 ⟨rfl, hb3⟩; have HB3 : Hid (Below w.heap.size w w3) := HB2.out.trans ((below_new hb3).mono HB2.out.size); clear hb3))
      go_ret
      exact ⟨rfl, HB3.out⟩
end Go.Proofs.YtbmaiioecnmopaaGreatDoor
