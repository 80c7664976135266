/-
  BunT, Packs, RpA, RpB, RpC, RpD: THESE TEXTS, JOINED. By the verifier of the loop 'triage'.
-/
import Derived.Test.YtbmaiioecnmopabGreatDoorJ05
import Derived.Test.YtbmaiioecnmopabGreatDoorJ37
import Derived.Deep.SlicePairs
import Derived.Carry
import Derived.SizedLaws
import Derived.Test.YtbmaiioecnmopabGreatDoorJ39
import Derived.Test.YtbmaiioecnmopabGreatDoorTie
import Derived.Test.YtbmaiioecnmopabGreatDoorCards
import Derived.SevenTiedAt
import Derived.Test.YtbmaiioecnmopabGreatDoorJ29
import Derived.Test.YtbmaiioecnmopabGreatDoorJ30
import Derived.Deep.RegionHeld3
import Derived.Test.YtbmaiioecnmopabGreatDoorJ35
/-
  A BUNDLE AMONG THE ARGUMENTS OF A CARD, OPENED. By the verifier of the loop 'triage'.
-/
namespace Go.Proofs.YtbmaiioecnmopabGreatDoor
open Go.ChangeShapes Go.WideShapes Go.ChangeAt Go.RowKit

theorem trod_struct7 {H : Type} {enc : TypeId × Value → H} {P : Program} {w : World} {base : Nat} {spare : Nat → Bool} {held : Bool} {t : TypeId} {f0 f1 f2 f3 f4 f5 f6 : Field} {fuel : Nat} {cs : List Value} {x : DataW H × List MemPlace} (ht : P.underlying t = some (.struct #[f0, f1, f2, f3, f4, f5, f6])) (h : DataW.trod enc P w base spare held fuel t cs = some x) :
    ∃ y0 y1 y2 y3 y4 y5 y6 n, x = (.agg [y0.1, y1.1, y2.1, y3.1, y4.1, y5.1, y6.1], y0.2 ++ (y1.2 ++ (y2.2 ++ (y3.2 ++ (y4.2 ++ (y5.2 ++ y6.2)))))) ∧ cs.length = P.cellsOf t ∧ DataW.trod enc P w base spare held n f0.type ((cs.drop f0.offset).take (P.cellsOf f0.type)) = some y0 ∧
      DataW.trod enc P w base spare held n f1.type ((cs.drop f1.offset).take (P.cellsOf f1.type)) = some y1 ∧ DataW.trod enc P w base spare held n f2.type ((cs.drop f2.offset).take (P.cellsOf f2.type)) = some y2 ∧
      DataW.trod enc P w base spare held n f3.type ((cs.drop f3.offset).take (P.cellsOf f3.type)) = some y3 ∧ DataW.trod enc P w base spare held n f4.type ((cs.drop f4.offset).take (P.cellsOf f4.type)) = some y4 ∧
      DataW.trod enc P w base spare held n f5.type ((cs.drop f5.offset).take (P.cellsOf f5.type)) = some y5 ∧ DataW.trod enc P w base spare held n f6.type ((cs.drop f6.offset).take (P.cellsOf f6.type)) = some y6 := by
  obtain ⟨xs, n, _, rfl, hl, hlen, hf⟩ := DataW.trod_struct ht h
  match xs, hlen with
  | [y0, y1, y2, y3, y4, y5, y6], _ => exact ⟨y0, y1, y2, y3, y4, y5, y6, n, by simp, hl, by simpa using hf 0 f0 rfl, by simpa using hf 1 f1 rfl, by simpa using hf 2 f2 rfl, by simpa using hf 3 f3 rfl, by simpa using hf 4 f4 rfl, by simpa using hf 5 f5 rfl, by simpa using hf 6 f6 rfl⟩

theorem Tryz.cellsBun : Tryz.prog.cellsOf 25 = 7 := by kernel_rfl
theorem Tryz.cellsSt : Tryz.prog.cellsOf 54 = 2 := by kernel_rfl
theorem Tryz.cellsSl : Tryz.prog.cellsOf 22 = 1 := by kernel_rfl
theorem Tryz.cellsIs : Tryz.prog.cellsOf 23 = 1 := by kernel_rfl
/-- how many elements a datum of a slice has. -/
def lenD {H : Type} : DataW H → Nat
  | .slice a _ => a.length
  | _ => 0
set_option maxRecDepth 100000 in
set_option maxHeartbeats 1600000 in
theorem bun_of_trod {H : Type} {enc : TypeId × Value → H} {W : World} {base : Nat} {v : Value} {d : DataW H} {p : List MemPlace} (hv : Value.okWide Tryz.prog W .any base 25 v)
    (h : DataW.Trod enc Tryz.prog W 0 (fun _ => true) true 25 v d p) (hlt : ∀ x ∈ p, x.block < W.heap.size) :
    ∃ im inp fu de kd sv ev sts eds y0 y1 y2 y3 y4 y5 y6, v = bunV im inp fu de kd sv ev ∧ inp.size ≤ maxLen ∧ Rd W sts.length sv (prI sts) ∧ Rd W eds.length ev (inI eds) ∧ d = .agg [y0, y1, y2, y3, y4, y5, y6] ∧ lenD y5 = sts.length ∧ lenD y6 = eds.length := by
  obtain ⟨cs, rfl, hcs⟩ := okWide_struct Tryz.underlying25 hv
  obtain ⟨fuel, hf⟩ := h
  obtain ⟨y0, y1, y2, y3, y4, y5, y6, n, hx, hl, t0, t1, t2, t3, t4, t5, t6⟩ := trod_struct7 Tryz.underlying25 hf
  rw [Tryz.cellsBun] at hcs
  obtain ⟨c0, c1, c2, c3, c4, c5, c6, rfl⟩ : ∃ c0 c1 c2 c3 c4 c5 c6, cs = #[c0, c1, c2, c3, c4, c5, c6] := by
    obtain ⟨l⟩ := cs
    match l, hcs with
    | [c0, c1, c2, c3, c4, c5, c6], _ => exact ⟨c0, c1, c2, c3, c4, c5, c6, rfl⟩
  simp only [Value.cells] at t0 t1 t2 t3 t4 t5 t6
  have e0 : List.take (Tryz.prog.cellsOf 9) (List.drop 0 [c0, c1, c2, c3, c4, c5, c6]) = [c0] := by rw [Tryz.cellsStr]; rfl
  have e1 : List.take (Tryz.prog.cellsOf 3) (List.drop 1 [c0, c1, c2, c3, c4, c5, c6]) = [c1] := by rw [Tryz.cellsInt]; rfl
  have e2 : List.take (Tryz.prog.cellsOf 3) (List.drop 2 [c0, c1, c2, c3, c4, c5, c6]) = [c2] := by rw [Tryz.cellsInt]; rfl
  have e3 : List.take (Tryz.prog.cellsOf 9) (List.drop 3 [c0, c1, c2, c3, c4, c5, c6]) = [c3] := by rw [Tryz.cellsStr]; rfl
  have e4 : List.take (Tryz.prog.cellsOf 3) (List.drop 4 [c0, c1, c2, c3, c4, c5, c6]) = [c4] := by rw [Tryz.cellsInt]; rfl
  have e5 : List.take (Tryz.prog.cellsOf 22) (List.drop 5 [c0, c1, c2, c3, c4, c5, c6]) = [c5] := by rw [Tryz.cellsSl]; rfl
  have e6 : List.take (Tryz.prog.cellsOf 23) (List.drop 6 [c0, c1, c2, c3, c4, c5, c6]) = [c6] := by rw [Tryz.cellsIs]; rfl
  rw [e0] at t0
  rw [e1] at t1
  rw [e2] at t2
  rw [e3] at t3
  rw [e4] at t4
  rw [e5] at t5
  rw [e6] at t6
  obtain ⟨im, h0, -, -⟩ := DataW.trod_string Tryz.underlying9 t0
  obtain ⟨fu, h1, -, -⟩ := DataW.trod_int Tryz.underlying3 t1
  obtain ⟨de, h2, -, -⟩ := DataW.trod_int Tryz.underlying3 t2
  obtain ⟨inp, h3, -, hm⟩ := DataW.trod_string Tryz.underlying9 t3
  obtain ⟨kd, h4, -, -⟩ := DataW.trod_int Tryz.underlying3 t4
  simp only [List.cons.injEq, and_true] at h0 h1 h2 h3 h4
  subst h0 h1 h2 h3 h4
  simp only [Prod.mk.injEq] at hx
  have hl5 : ∀ x ∈ y5.2, x.block < W.heap.size := fun x hx' => hlt x (by rw [hx.2]; simp [hx'])
  have hl6 : ∀ x ∈ y6.2, x.block < W.heap.size := fun x hx' => hlt x (by rw [hx.2]; simp [hx'])
  obtain ⟨sts, hS, hSl⟩ : ∃ sts : List (Int × Int), Rd W sts.length c5 (prI sts) ∧ lenD y5.1 = sts.length := by
    rcases Go.Deep.open_slice_pairs Tryz.undSitesB Tryz.underlying54 Tryz.cellsSt rfl rfl Tryz.cellsInt Tryz.cellsInt t5 with ⟨hcs5, hx5⟩ | ⟨a, len, cap, m, k, V0, V1, D0, D1, P0, P1, hcs5, -, hle, hmx, hmm, hx5, hcell⟩
    · simp only [List.cons.injEq, and_true] at hcs5
      subst hcs5
      exact ⟨[], rd_nil W, by rw [hx5]; rfl⟩
    · simp only [List.cons.injEq, and_true] at hcs5
      subst hcs5
      simp only [if_true] at hmm
      subst hmm
      have hsl : ((List.range len).map fun i => (intOf (V0 i), intOf (V1 i))).length = len := by simp
      refine ⟨(List.range len).map fun i => (intOf (V0 i), intOf (V1 i)), ?_, by rw [hx5, hsl]; simp [lenD]⟩
      rw [hsl]
      refine ⟨some a, m, rfl, hle, hmx, fun h0 => ?_⟩
      obtain ⟨b, off, spot⟩ := a
      have hspot : spot = none := by simpa [Addr.add] using World.cell?_spot (hcell 0 (by omega)).1
      subst hspot
      refine ⟨b, off, rfl, hl5 (.cell b off) (by rw [hx5]; exact List.mem_append_left _ (MemPlace.mem_row.2 ⟨0, by omega, by simp⟩)), ?_⟩
      intro i u hi
      have hil : i < len * 2 := by
        have := (List.getElem?_eq_some_iff.1 hi).1
        rw [prI_len, hsl] at this
        exact this
      have each : ∀ j, j < len → W.cell? ⟨b, off + j * 2, none⟩ = some (.int .i64 (intOf (V0 j))) ∧ W.cell? ⟨b, off + (j * 2 + 1), none⟩ = some (.int .i64 (intOf (V1 j))) := by
        intro j hj
        obtain ⟨g1, g2, g3, g4⟩ := hcell j (by omega)
        obtain ⟨z0, hz0, -, -⟩ := DataW.trod_int Tryz.underlying3 g3
        obtain ⟨z1, hz1, -, -⟩ := DataW.trod_int Tryz.underlying3 g4
        simp only [List.cons.injEq, and_true] at hz0 hz1
        rw [hz0] at g1 ⊢
        rw [hz1] at g2 ⊢
        rw [add_plain] at g1 g2
        exact ⟨g1, g2⟩
      obtain ⟨g1, g2⟩ := prI_get ((List.range len).map fun i => (intOf (V0 i), intOf (V1 i))) (i / 2) (by rw [hsl]; omega)
      have hget : ((List.range len).map fun i => (intOf (V0 i), intOf (V1 i)))[i / 2]?.getD (0, 0) = (intOf (V0 (i / 2)), intOf (V1 (i / 2))) := by
        rw [List.getElem?_map, List.getElem?_range (by omega)]; rfl
      rw [hget] at g1 g2
      rcases Nat.mod_two_eq_zero_or_one i with h2 | h2
      · have hi2 : i = i / 2 * 2 := by omega
        rw [hi2] at hi ⊢
        rw [hi] at g1
        rw [g1]
        exact (each (i / 2) (by omega)).1
      · have hi2 : i = i / 2 * 2 + 1 := by omega
        rw [hi2] at hi ⊢
        rw [hi] at g2
        rw [g2]
        exact (each (i / 2) (by omega)).2
  obtain ⟨eds, hE, hEl⟩ : ∃ eds : List Int, Rd W eds.length c6 (inI eds) ∧ lenD y6.1 = eds.length := by
    rcases open_ints Tryz.undInts Tryz.underlying3 Tryz.cellsInt t6 with ⟨hcs6, hx6⟩ | ⟨a, len, cap, zs, hcs6, -, hle, hmx, hz, hx6, hcell, -⟩
    · simp only [List.cons.injEq, and_true] at hcs6
      subst hcs6
      exact ⟨[], rd_nil W, by rw [hx6]; rfl⟩
    · simp only [List.cons.injEq, and_true] at hcs6
      subst hcs6
      simp only [if_true] at hz
      have hsl : (zs.take len).length = len := by simp; omega
      refine ⟨zs.take len, ?_, by rw [hx6, hsl]; simp [lenD, lits]; omega⟩
      rw [hsl]
      refine ⟨some a, cap, rfl, hle, hmx, fun h0 => ?_⟩
      obtain ⟨b, off, spot⟩ := a
      have hspot : spot = none := by simpa [Addr.add] using World.cell?_spot (hcell 0 (by omega))
      subst hspot
      refine ⟨b, off, rfl, hl6 (.cell b off) (by rw [hx6]; exact MemPlace.mem_row.2 ⟨0, by omega, by simp⟩), ?_⟩
      intro i u hi
      have hil : i < len := by
        have := (List.getElem?_eq_some_iff.1 hi).1
        simp [inI] at this
        omega
      have h1 := hcell i (by omega)
      rw [add_plain] at h1
      rw [h1]
      rw [inI_get _ i (by rw [hsl]; exact hil), List.getElem?_take_of_lt hil] at hi
      rw [List.getD_eq_getElem?_getD]
      exact hi
  exact ⟨im, inp, fu, de, kd, c5, c6, sts, eds, y0.1, y1.1, y2.1, y3.1, y4.1, y5.1, y6.1, rfl, hm, hS, hE, hx.1, hSl, hEl⟩
end Go.Proofs.YtbmaiioecnmopabGreatDoor

/-
  THE ROW OF 'triagelaw.Packs' PROVED, AND ITS TIED CARD. By the verifier of the loop 'triage'.
-/
namespace Go.Proofs.YtbmaiioecnmopabGreatDoor
open Go.ChangeShapes Go.WideShapes Go.ChangeAt Go.RowKit
open Go.ChangeMaps (open_string shut_string)

theorem Tryz.laidOutB : laidOutB Tryz.prog = true := by kernel_rfl
theorem Tryz.bytesSt : Tryz.prog.bytesOf 54 = 16 := by kernel_rfl
theorem Tryz.bytesIn : Tryz.prog.bytesOf 3 = 8 := by kernel_rfl
theorem sized_sites {H : Type} {y0 y1 y2 y3 y4 y5 y6 : DataW H} {ts : List TypeId} {ds : List (DataW H)} (h : (DataW.weightsEach Tryz.prog (25 :: ts) (.agg [y0, y1, y2, y3, y4, y5, y6] :: ds)).all (· ≤ reachBytes) = true) : lenD y5 ≤ 8796093022000 := by
  cases y5 with
  | slice el sp =>
    have := List.all_eq_true.1 h _ (DataW.weights_mem_each (j := 0) (t := 25) rfl rfl ((el.length + sp.length) * Tryz.prog.bytesOf 54) (by simp [DataW.weights, DataW.weightsEach, Tryz.underlying25]))
    rw [Tryz.bytesSt] at this
    have h2 : (el.length + sp.length) * 16 ≤ reachBytes := by simpa using this
    unfold reachBytes at h2
    show el.length ≤ _
    omega
  | _ => exact Nat.zero_le _
theorem sized_edges {H : Type} {y0 y1 y2 y3 y4 y5 y6 : DataW H} {ts : List TypeId} {ds : List (DataW H)} (h : (DataW.weightsEach Tryz.prog (25 :: ts) (.agg [y0, y1, y2, y3, y4, y5, y6] :: ds)).all (· ≤ reachBytes) = true) : lenD y6 ≤ 17592186043904 := by
  cases y6 with
  | slice el sp =>
    have := List.all_eq_true.1 h _ (DataW.weights_mem_each (j := 0) (t := 25) rfl rfl ((el.length + sp.length) * Tryz.prog.bytesOf 3) (by simp [DataW.weights, DataW.weightsEach, Tryz.underlying25]))
    rw [Tryz.bytesIn] at this
    have h2 : (el.length + sp.length) * 8 ≤ reachBytes := by simpa using this
    unfold reachBytes at h2
    show el.length ≤ _
    omega
  | _ => exact Nat.zero_le _

end Go.Proofs.YtbmaiioecnmopabGreatDoor

/-
  THE LAW Replays: two rows of numbers compared, on both sides. By the verifier of the loop 'triage'.
-/
namespace Go.Proofs.YtbmaiioecnmopabGreatDoor
open Go.RowKit

set_option maxHeartbeats 3200000 in
set_option maxRecDepth 100000 in
theorem sameInts_dec (a b : Value) (l m : List Nat) (w : World) (ha : Rd w l.length a (ints l)) (hb : Rd w m.length b (ints m)) :
    Calls Tryz.prog 35 #[a, b] w fun e w' => e = .returned (.bool (decide (l = m))) ∧ Below w.heap.size w w' := by
  obtain ⟨a1, cap1, hv1, hn1, hm1, hc1⟩ := ha
  obtain ⟨a2, cap2, hv2, hn2, hm2, hc2⟩ := hb
  subst hv1 hv2
  unfold maxLen at hm1 hm2
  by_cases hlen : l.length = m.length
  · obtain ⟨len, HLEN⟩ : ∃ len, Hid (l.length = len) := ⟨_, rfl⟩
    have HLEM : Hid (m.length = len) := hlen.symm.trans HLEN.out
    rw [HLEN.out] at hc1 hn1
    rw [HLEM.out] at hc2 hn2
    rw [HLEN.out, HLEM.out]
    obtain ⟨D, HD⟩ : ∃ D, Hid (decide (l = m) = D) := ⟨_, rfl⟩
    rw [HD.out]
    clear hlen
    go_enter Tryz.func35, Tryz.ntmps35
    go_wp2
    go_loopw [5] (fun i wr => ∃ j : Nat, i = .int .i64 j ∧ j ≤ len ∧ l.take j = m.take j ∧ Below w.heap.size w wr) (fun i _ => len - (intOf i).toNat)
    case atStart => exact ⟨0, rfl, by omega, rfl, Below.refl _ _⟩
    case round =>
      obtain ⟨j, rfl, hj, hT, hB⟩ := hrel
      by_cases hlt : j < len
      · obtain ⟨g1, o1, rfl, hg1, hx1⟩ := hc1 (by omega)
        obtain ⟨g2, o2, rfl, hg2, hx2⟩ := hc2 (by omega)
        have x1 := (hB.cell (p := ⟨g1, o1 + j, none⟩) hg1).trans (hx1 _ _ (ints_get l j (by rw [HLEN.out]; exact hlt)))
        have x2 := (hB.cell (p := ⟨g2, o2 + j, none⟩) hg2).trans (hx2 _ _ (ints_get m j (by rw [HLEM.out]; exact hlt)))
        have HT : Hid (l[j]?.getD 0 = m[j]?.getD 0 → l.take (j + 1) = m.take (j + 1)) := fun h => take_ext (by rw [HLEN.out]; exact hlt) (by rw [HLEM.out]; exact hlt) 0 hT h
        have HN : Hid (l[j]?.getD 0 ≠ m[j]?.getD 0 → D = false) := by
          show l[j]?.getD 0 ≠ m[j]?.getD 0 → D = false
          intro h
          rw [← HD.out]
          exact decide_eq_false fun e => h (by rw [e])
        generalize l[j]?.getD 0 = x at *
        generalize m[j]?.getD 0 = y at *
        have HB : Hid (Below w.heap.size w wr) := hB
        clear hc1 hc2 hx1 hx2 hB hT
        by_cases h1 : x = y
        · subst h1
          have HT2 : Hid (l.take (j + 1) = m.take (j + 1)) := HT.out rfl
          clear HT HN
          go_wp2
          go_quiet (fail)
          go_wp2
          go_roundw
          case rel => exact ⟨j + 1, by go_num, by omega, HT2.out, ⟨HB.out.os, HB.out.tape, HB.out.output, HB.out.size, HB.out.block⟩⟩
          case measure => simp [intOf]; omega
        · have b1 : (((x : Nat) : Int) == ((y : Nat) : Int)) = false := by simp; omega
          have b3 : (((x : Nat) : Int) != ((y : Nat) : Int)) = true := by simp; omega
          have HF : Hid (D = false) := HN.out h1
          clear HT HN
          go_wp2
          go_quiet (fail)
          go_wp2
          go_ret
          exact ⟨by rw [HF.out]; first | done | rfl, ⟨HB.out.os, HB.out.tape, HB.out.output, HB.out.size, HB.out.block⟩⟩
      · obtain rfl : j = len := by omega
        have HF : Hid (D = true) := by
          show D = true
          rw [← HD.out, decide_eq_true_iff]
          rwa [List.take_of_length_le (by rw [HLEN.out]; omega), List.take_of_length_le (by rw [HLEM.out]; omega)] at hT
        have HB : Hid (Below w.heap.size w wr) := hB
        clear hc1 hc2 hB hT
        go_wp2
        go_ret
        exact ⟨by rw [HF.out]; first | done | rfl, HB.out⟩
  · have hd : decide (l = m) = false := decide_eq_false fun e => hlen (by rw [e])
    rw [hd]
    have hb1 : ((l.length : Int) == (m.length : Int)) = false := by simp; omega
    have hb2 : ((l.length : Int) != (m.length : Int)) = true := by simp; omega
    clear hc1 hc2
    go_enter Tryz.func35, Tryz.ntmps35
    go_wp2
    go_ret
    exact ⟨rfl, Below.refl _ _⟩
end Go.Proofs.YtbmaiioecnmopabGreatDoor

/-
  THE LAW Replays: slices.Equal at []int. By the verifier of the loop 'triage'.
-/
namespace Go.Proofs.YtbmaiioecnmopabGreatDoor
open Go.RowKit

set_option maxHeartbeats 3200000 in
set_option maxRecDepth 100000 in
theorem equal_dec (a b : Value) (l m : List Nat) (w : World) (ha : Rd w l.length a (ints l)) (hb : Rd w m.length b (ints m)) :
    Calls Tryz.prog 31 #[a, b] w fun e w' => e = .returned (.bool (decide (l = m))) ∧ Below w.heap.size w w' := by
  obtain ⟨a1, cap1, hv1, hn1, hm1, hc1⟩ := ha
  obtain ⟨a2, cap2, hv2, hn2, hm2, hc2⟩ := hb
  subst hv1 hv2
  unfold maxLen at hm1 hm2
  by_cases hlen : l.length = m.length
  · obtain ⟨len, HLEN⟩ : ∃ len, Hid (l.length = len) := ⟨_, rfl⟩
    have HLEM : Hid (m.length = len) := hlen.symm.trans HLEN.out
    rw [HLEN.out] at hc1 hn1
    rw [HLEM.out] at hc2 hn2
    rw [HLEN.out, HLEM.out]
    obtain ⟨D, HD⟩ : ∃ D, Hid (decide (l = m) = D) := ⟨_, rfl⟩
    rw [HD.out]
    clear hlen
    go_enter Tryz.func31, Tryz.ntmps31
    go_wp2
    go_loopw [13] (fun i wr => ∃ j : Nat, i = .int .i64 j ∧ j ≤ len ∧ l.take j = m.take j ∧ Below w.heap.size w wr) (fun i _ => len - (intOf i).toNat)
    case atStart => exact ⟨0, rfl, by omega, rfl, Below.refl _ _⟩
    case round =>
      obtain ⟨j, rfl, hj, hT, hB⟩ := hrel
      by_cases hlt : j < len
      · obtain ⟨g1, o1, rfl, hg1, hx1⟩ := hc1 (by omega)
        obtain ⟨g2, o2, rfl, hg2, hx2⟩ := hc2 (by omega)
        have x1 := (hB.cell (p := ⟨g1, o1 + j, none⟩) hg1).trans (hx1 _ _ (ints_get l j (by rw [HLEN.out]; exact hlt)))
        have x2 := (hB.cell (p := ⟨g2, o2 + j, none⟩) hg2).trans (hx2 _ _ (ints_get m j (by rw [HLEM.out]; exact hlt)))
        have HT : Hid (l[j]?.getD 0 = m[j]?.getD 0 → l.take (j + 1) = m.take (j + 1)) := fun h => take_ext (by rw [HLEN.out]; exact hlt) (by rw [HLEM.out]; exact hlt) 0 hT h
        have HN : Hid (l[j]?.getD 0 ≠ m[j]?.getD 0 → D = false) := by
          show l[j]?.getD 0 ≠ m[j]?.getD 0 → D = false
          intro h
          rw [← HD.out]
          exact decide_eq_false fun e => h (by rw [e])
        generalize l[j]?.getD 0 = x at *
        generalize m[j]?.getD 0 = y at *
        have HB : Hid (Below w.heap.size w wr) := hB
        clear hc1 hc2 hx1 hx2 hB hT
        by_cases h1 : x = y
        · subst h1
          have HT2 : Hid (l.take (j + 1) = m.take (j + 1)) := HT.out rfl
          clear HT HN
          go_wp2
          go_quiet (fail)
          go_wp2
          go_roundw
          case rel => exact ⟨j + 1, by go_num, by omega, HT2.out, ⟨HB.out.os, HB.out.tape, HB.out.output, HB.out.size, HB.out.block⟩⟩
          case measure => simp [intOf]; omega
        · have b1 : (((x : Nat) : Int) == ((y : Nat) : Int)) = false := by simp; omega
          have b3 : (((x : Nat) : Int) != ((y : Nat) : Int)) = true := by simp; omega
          have HF : Hid (D = false) := HN.out h1
          clear HT HN
          go_wp2
          go_quiet (fail)
          go_wp2
          go_ret
          exact ⟨by rw [HF.out]; first | done | rfl, ⟨HB.out.os, HB.out.tape, HB.out.output, HB.out.size, HB.out.block⟩⟩
      · obtain rfl : j = len := by omega
        have HF : Hid (D = true) := by
          show D = true
          rw [← HD.out, decide_eq_true_iff]
          rwa [List.take_of_length_le (by rw [HLEN.out]; omega), List.take_of_length_le (by rw [HLEM.out]; omega)] at hT
        have HB : Hid (Below w.heap.size w wr) := hB
        clear hc1 hc2 hB hT
        go_wp2
        go_ret
        exact ⟨by rw [HF.out]; first | done | rfl, HB.out⟩
  · have hd : decide (l = m) = false := decide_eq_false fun e => hlen (by rw [e])
    rw [hd]
    have hb1 : ((l.length : Int) == (m.length : Int)) = false := by simp; omega
    have hb2 : ((l.length : Int) != (m.length : Int)) = true := by simp; omega
    clear hc1 hc2
    go_enter Tryz.func31, Tryz.ntmps31
    go_wp2
    go_ret
    exact ⟨rfl, Below.refl _ _⟩
end Go.Proofs.YtbmaiioecnmopabGreatDoor

/-
  THE LAW Replays: Stale (package triageref). By the verifier of the loop 'triage'.
-/
namespace Go.Proofs.YtbmaiioecnmopabGreatDoor
open Go.RowKit

/-- does a bundle tell the run that there is? -/
def tells (im inp : ByteArray) (fu de kd : Nat) (sts : List (Nat × Nat)) (eds : List Nat) : Bool := decide (ky im fu de inp = some (kd, sts)) && decide ((rep im fu inp).eds = eds)

set_option maxHeartbeats 3200000 in
set_option maxRecDepth 100000 in
theorem stale_any (im inp : ByteArray) (fu de kd A : Nat) (sv ev : Value) (sts : List (Nat × Nat)) (eds : List Nat) (w : World) (hc : Im.chk im = (0, 0)) (hi : inp.size ≤ 24) (hf : fu ≤ 2000) (hd : de ≤ 6) (hl : sts.length ≤ 6)
    (hS : w.ownsRow A 76 2 sv sts.length (prs sts)) (hE : Rd w eds.length ev (ints eds)) :
    Calls Tryz.prog 11 #[bunV im inp fu de kd sv ev] w fun e w' => e = .returned (.bool (!tells im inp fu de kd sts eds)) ∧ Below w.heap.size w w' := by
  have HS : Hid (w.ownsRow A 76 2 sv sts.length (prs sts)) := hS
  have HE : Hid (Rd w eds.length ev (ints eds)) := hE
  obtain ⟨qs, cs, hvs, -, -, -⟩ := owns_shape hS
  obtain ⟨qe, ce, hve, -⟩ := hE
  subst hvs hve
  unfold bunV
  obtain ⟨R, HR⟩ := nm (!tells im inp fu de kd sts eds)
  rw [HR.out]
  have hst := rep_sts (s := im) (inp := inp) (fuel := fu) hc hi hf
  have HKY : Hid (ky im fu de inp = kyR (rep im fu inp) de) := rfl
  have HKL : Hid (∀ k, ky im fu de inp = some k → k.2.length ≤ 6) := by
    intro k hk
    obtain ⟨-, rfl⟩ := ky_some hk
    simp [List.length_take]; omega
  clear hS
  go_enter Tryz.func11, Tryz.ntmps11
  go_wp2_with fail
  refine (play_rep im inp fu _ hc hi hf).mono ?_
  rintro e w1 ⟨v28, v29, rfl, h28, h29, hb1⟩
  obtain ⟨a4, c4, hv4, -, -, -⟩ := owns_shape h28
  obtain ⟨a5, c5, hv5, -, -, -⟩ := owns_shape h29
  subst hv4 hv5
  have HK : Hid (w1.heap[w.heap.size]? = some (.cells #[.string im, .int .i64 (fu : Nat), .int .i64 (de : Nat), .string inp, .int .i64 (kd : Nat), .slice qs sts.length cs, .slice qe eds.length ce] 31)) := (hb1.block w.heap.size (by simp)).trans (hp_new _ _)
  have HB1 : Hid (Below w.heap.size w w1) := ((Below.refl _ _).alloc (Nat.le_refl _) _).trans (hb1.mono (by simp))
  have hs1 : w.heap.size < w1.heap.size := by have := hb1.size; simp at this; omega
  have H28 : Hid (w1.ownsRow w.heap.size 76 2 (.slice a4 (rep im fu inp).sts.length c4) (rep im fu inp).sts.length (prs (rep im fu inp).sts)) := owns_base h28 (by simp)
  have H29 : Hid (w1.ownsRow w.heap.size 3 1 (.slice a5 (rep im fu inp).eds.length c5) (rep im fu inp).eds.length (ints (rep im fu inp).eds)) := owns_base h29 (by simp)
  clear hb1 h28 h29
  obtain ⟨x0, x1, x2, x3, x4, x5, x6⟩ := z7_of HK.out
  have HTL : Hid (tells im inp fu de kd sts eds = (decide (kyR (rep im fu inp) de = some (kd, sts)) && decide ((rep im fu inp).eds = eds))) := rfl
  generalize rep im fu inp = p at *
  go_wp2_with fail
  refine (keyOf_any w.heap.size p de _ _ _ hd (by omega) (H28.out.alloc _)).mono ?_
  rintro e w3 ⟨hb3, hm3⟩
  have hb3' : Below w1.heap.size w1 w3 := below_new hb3
  have HB3 : Hid (Below w.heap.size w w3) := HB1.out.trans (hb3'.mono (Nat.le_of_lt hs1))
  have HRB : Hid (w3.heap[w1.heap.size]? = some (.cells #[.int .i64 (p.en : Nat), .int .i64 (p.fa : Nat), .int .i64 (p.pa : Nat), .int .i64 (p.kd : Nat), .slice a4 p.sts.length c4, .slice a5 p.eds.length c5, .int .i64 (p.k : Nat), .int .i64 p.top] 91)) := (hb3.block w1.heap.size (by simp)).trans (hp_new _ _)
  have HK3 : Hid (w3.heap[w.heap.size]? = some (.cells #[.string im, .int .i64 (fu : Nat), .int .i64 (de : Nat), .string inp, .int .i64 (kd : Nat), .slice qs sts.length cs, .slice qe eds.length ce] 31)) := (hb3'.block w.heap.size hs1).trans HK.out
  have H29' : Hid (w3.ownsRow w.heap.size 3 1 (.slice a5 p.eds.length c5) p.eds.length (ints p.eds)) := World.ownsRow.kept (row := none) H29.out ⟨hb3'.os, hb3'.tape, hb3'.output, hb3'.size, fun k hk _ => hb3'.block k hk⟩ (by rcases hx : (Value.slice a5 p.eds.length c5).ownBlock with _ | x; exact Or.inl rfl; exact Or.inr (by simp))
  have HS3 : Hid (w3.ownsRow A 76 2 (.slice qs sts.length cs) sts.length (prs sts)) := World.ownsRow.kept (row := none) HS.out ⟨HB3.out.os, HB3.out.tape, HB3.out.output, HB3.out.size, fun k hk _ => HB3.out.block k hk⟩ (by rcases hx : (Value.slice qs sts.length cs).ownBlock with _ | x; exact Or.inl rfl; exact Or.inr (by simp))
  have HE3 : Hid (Rd w3 eds.length (.slice qe eds.length ce) (ints eds)) := HE.out.below HB3.out
  have hs3 : w1.heap.size < w3.heap.size := by have := hb3.size; simp at this; omega
  clear hb3 hb3' x0 x1 x2 x3 x4 x5 x6 HK H28 H29 HS HE
  cases hq : kyR p de with
  | none =>
    rw [hq] at hm3
    dsimp only at hm3
    subst hm3
    have HF : Hid (R = true) := by
      show R = true
      rw [← HR.out]
      rw [HTL.out, hq]
      rfl
    clear hq
    go_wp2
    go_ret
    exact ⟨by rw [HF.out]; first | done | rfl, HB3.out.alloc HB3.out.size _⟩
  | some k =>
    rw [hq] at hm3
    dsimp only at hm3
    obtain ⟨kv, rfl, hKV⟩ := hm3
    obtain ⟨uk, rfl, huk⟩ := hKV
    obtain ⟨a6, c6, hv6, -, -, -⟩ := owns_shape huk
    subst hv6
    have hk6 : k.2.length ≤ 6 := HKL.out k (HKY.out.trans hq)
    have HUK : Hid (w3.ownsRow w.heap.size 76 2 (.slice a6 k.2.length c6) k.2.length (prs k.2)) := huk
    have HRR : Hid (R = (!(decide (k = (kd, sts)) && decide (p.eds = eds)))) := by
      show R = _
      rw [← HR.out]
      rw [HTL.out, hq]
      have : decide (some k = some (kd, sts)) = decide (k = (kd, sts)) := by
        by_cases h : k = (kd, sts)
        · rw [h]; simp
        · rw [decide_eq_false h, decide_eq_false (fun e => h (Option.some.inj e))]
      rw [this]
    obtain ⟨x0, x1, x2, x3, x4, x5, x6⟩ := z7_of HK3.out
    have r5 : w3.cell? ⟨w1.heap.size, 5, none⟩ = some (.slice a5 p.eds.length c5) := rcell_of HRB.out rfl
    have hs03 : w.heap.size < w3.heap.size := by omega
    have HSA : Hid (∀ o, Below w.heap.size w (w3.alloc o)) := fun o => HB3.out.alloc HB3.out.size o
    clear hq huk
    go_wp2_with fail
    refine (same_any w.heap.size A _ _ k (kd, sts) _ (by omega) (by simp; omega) ⟨_, rfl, by exact HUK.out.alloc _⟩ ⟨_, rfl, by exact HS3.out.alloc _⟩).mono ?_
    rintro e w4 ⟨rfl, hb4⟩
    have hb4' : Below w3.heap.size w3 w4 := below_new hb4
    have HB4 : Hid (Below w.heap.size w w4) := HB3.out.trans (hb4'.mono HB3.out.size)
    by_cases hk : k = (kd, sts)
    · have HD : Hid (decide (k = (kd, sts)) = true) := decide_eq_true hk
      have HRS : Hid (R = !decide (p.eds = eds)) := by
        show R = _
        rw [HRR.out, HD.out]
        rfl
      have y6 := (hb4'.cell (p := ⟨w.heap.size, 6, none⟩) hs03).trans x6
      have q5 := (hb4'.cell (p := ⟨w1.heap.size, 5, none⟩) hs3).trans r5
      have HE4 : Hid (Rd w4 eds.length (.slice qe eds.length ce) (ints eds)) := HE3.out.below hb4'
      have HP4 : Hid (Rd w4 p.eds.length (.slice a5 p.eds.length c5) (ints p.eds)) := (rd_owns H29'.out).below hb4'
      rw [HD.out]
      clear hk HD HRR hb4 hb4' x0 x1 x2 x3 x4 x5 x6 r5 HUK
      go_wp2_with fail
      refine (sameInts_dec _ _ p.eds eds _ HP4.out HE4.out).mono ?_
      rintro e w5 ⟨rfl, hb5⟩
      have HB5 : Hid (Below w.heap.size w w5) := HB4.out.trans (hb5.mono HB4.out.size)
      generalize decide (p.eds = eds) = D at *
      clear hb5 y6 q5
      go_wp2
      go_ret
      exact ⟨by rw [HRS.out]; first | done | rfl, HB5.out⟩
    · have HD : Hid (decide (k = (kd, sts)) = false) := decide_eq_false hk
      have HF : Hid (R = true) := by
        show R = _
        rw [HRR.out, HD.out]
        rfl
      rw [HD.out]
      clear hk HD HRR hb4 hb4' x0 x1 x2 x3 x4 x5 x6 r5 HUK
      go_wp2
      go_ret
      exact ⟨by rw [HF.out]; first | done | rfl, HB4.out⟩
end Go.Proofs.YtbmaiioecnmopabGreatDoor

/-
  THE LAW Replays: Replay (package triage). By the verifier of the loop 'triage'.
-/
namespace Go.Proofs.YtbmaiioecnmopabGreatDoor
open Go.RowKit

def told (P : Bu.Bn) : Bool := tells (ofL P.im) (ofL P.inp) P.fu P.de P.kd P.sts P.eds
/-- what Replay answers. -/
def replP (s : ByteArray) : Int := if okN (Bu.parse (lst s)) = true ∧ Bu.text (Bu.parse (lst s)) = lst s then (if told (Bu.parse (lst s)) = true then 0 else 9) else 8
theorem range_newR (w : World) (k : Nat × List (Nat × Nat)) (t : TypeId) : (w.alloc (.cells #[Value.int .i64 (kn k 0 : Nat), Value.int .i64 (kn k 1 : Nat), Value.int .i64 (kn k 2 : Nat), Value.int .i64 (kn k 3 : Nat), Value.int .i64 (kn k 4 : Nat), Value.int .i64 (kn k 5 : Nat), Value.int .i64 (kn k 6 : Nat), Value.int .i64 (kn k 7 : Nat), Value.int .i64 (kn k 8 : Nat), Value.int .i64 (kn k 9 : Nat), Value.int .i64 (kn k 10 : Nat), Value.int .i64 (kn k 11 : Nat), Value.int .i64 (kn k 12 : Nat), Value.int .i64 (kn k 13 : Nat)] t)).rangeAt w.heap.size 0 [Value.int .i64 (kn k 0 : Nat), Value.int .i64 (kn k 1 : Nat), Value.int .i64 (kn k 2 : Nat), Value.int .i64 (kn k 3 : Nat), Value.int .i64 (kn k 4 : Nat), Value.int .i64 (kn k 5 : Nat), Value.int .i64 (kn k 6 : Nat), Value.int .i64 (kn k 7 : Nat), Value.int .i64 (kn k 8 : Nat), Value.int .i64 (kn k 9 : Nat), Value.int .i64 (kn k 10 : Nat), Value.int .i64 (kn k 11 : Nat), Value.int .i64 (kn k 12 : Nat), Value.int .i64 (kn k 13 : Nat)] := by
  intro j v hv
  rw [Nat.zero_add]
  exact rcell_of (rheap_new _ _) (by rw [List.getElem?_toArray]; exact hv)
theorem range_cellsR {w : World} {b : Nat} (k : Nat × List (Nat × Nat)) (h : w.rangeAt b 0 [Value.int .i64 (kn k 0 : Nat), Value.int .i64 (kn k 1 : Nat), Value.int .i64 (kn k 2 : Nat), Value.int .i64 (kn k 3 : Nat), Value.int .i64 (kn k 4 : Nat), Value.int .i64 (kn k 5 : Nat), Value.int .i64 (kn k 6 : Nat), Value.int .i64 (kn k 7 : Nat), Value.int .i64 (kn k 8 : Nat), Value.int .i64 (kn k 9 : Nat), Value.int .i64 (kn k 10 : Nat), Value.int .i64 (kn k 11 : Nat), Value.int .i64 (kn k 12 : Nat), Value.int .i64 (kn k 13 : Nat)]) : ∀ o, o < 14 → w.cell? ⟨b, o, none⟩ = some (.int .i64 (kn k o : Nat)) := by
  intro o ho
  have := h o (.int .i64 (kn k o : Nat)) (by
    obtain rfl | rfl | rfl | rfl | rfl | rfl | rfl | rfl | rfl | rfl | rfl | rfl | rfl | rfl : o = 0 ∨ o = 1 ∨ o = 2 ∨ o = 3 ∨ o = 4 ∨ o = 5 ∨ o = 6 ∨ o = 7 ∨ o = 8 ∨ o = 9 ∨ o = 10 ∨ o = 11 ∨ o = 12 ∨ o = 13 := by omega
    all_goals rfl)
  rwa [Nat.zero_add] at this
set_option maxRecDepth 100000 in
theorem field_edgesR (f0 f1 f2 f3 f4 f5 f6 f7 : Value) (w : World) : (Instr.field 58 (.agg #[f0, f1, f2, f3, f4, f5, f6, f7]) 3).run Tryz.prog w = .ok f5 w := by kernel_rfl

set_option maxHeartbeats 3200000 in
set_option maxRecDepth 100000 in
theorem replay_any (s : ByteArray) (w : World) (hG : Glob w) (hm : s.size ≤ maxLen) :
    Calls Tryz.prog 10 #[.string s] w fun e w' => e = .returned (.int .i64 (replP s)) ∧ Below w.heap.size w w' := by
  have HG : Hid (Glob w) := hG
  clear hG
  obtain ⟨R, HR⟩ := nm (replP s)
  rw [HR.out]
  have HBV : Hid (∀ (a b : ByteArray) (x y z : Int) (p q : Value), bunV a b x y z p q = .agg #[.string a, .int .i64 x, .int .i64 y, .string b, .int .i64 z, p, q]) := fun _ _ _ _ _ _ _ => rfl
  go_enter Tryz.func10, Tryz.ntmps10
  go_wp2_with fail
  refine (unpack_any s _ HG.out hm).mono ?_
  rintro e w1 ⟨hb1, hp⟩
  have HB1 : Hid (Below w.heap.size w w1) := hb1
  clear hb1
  rcases hp with ⟨hok, sv, ev, rfl, hsv, hev⟩ | ⟨hno, rfl⟩
  · rw [HBV.out]
    have HRT : Hid (R = if told (Bu.parse (lst s)) = true then 0 else 9) := by
      show R = _
      rw [← HR.out]
      unfold replP
      rw [if_pos hok]
    have HOKN : Hid (okN (Bu.parse (lst s)) = true) := hok.1
    generalize Bu.parse (lst s) = P at *
    have hargs := (okB_parts HOKN.out).1
    rw [upP_len] at hargs
    obtain ⟨h0, h1, h2, h3, h4, h5, h6, h7, h8⟩ := hargs
    have hc : Im.chk (ofL P.im) = (0, 0) := chk_zero _ h0
    have hf : P.fu ≤ 2000 := by omega
    have hd : P.de ≤ 6 := by omega
    have hl : P.sts.length ≤ P.de := by omega
    have HAOK : Hid (AskOk (ofL P.im) (P.fu : Int) (P.de : Int) [ofL P.inp]) := ⟨hc, by omega, by omega, by simp, by intro x hx; simp at hx; subst hx; exact h5⟩
    obtain ⟨a4, c4, hv4, -, -, -⟩ := owns_shape hsv
    obtain ⟨a5, c5, hv5, -, -, -⟩ := owns_shape hev
    subst hv4 hv5
    have HTD : Hid (told P = tells (ofL P.im) (ofL P.inp) P.fu P.de P.kd P.sts P.eds) := rfl
    obtain ⟨fu, de, kd, im, inp, sts, eds⟩ := P
    dsimp only at *
    generalize ofL im = im at *
    generalize ofL inp = inp at *
    have HSV : Hid (w1.ownsRow w.heap.size 54 2 (.slice a4 sts.length c4) sts.length (prs sts)) := hsv
    have HEV : Hid (w1.ownsRow w.heap.size 3 1 (.slice a5 eds.length c5) eds.length (ints eds)) := hev
    have HRT2 : Hid (R = if tells im inp fu de kd sts eds = true then 0 else 9) := by
      show R = _
      rw [HRT.out, HTD.out]
    have HI0 : Hid (∀ o, Ins [inp] (.slice (some ⟨w1.heap.size + 1, 0, none⟩) 1 1) ((w1.alloc o).alloc (.cells #[.string inp] 9))) := by
      intro o
      have := ins_one inp (w1.alloc o) 9 (by unfold maxLen; omega)
      rwa [World.size_alloc] at this
    have HG1 : Hid (∀ o o', Glob ((w1.alloc o).alloc o')) := fun o o' => ((HG.out.below HB1.out).below ((Below.refl _ _).alloc (Nat.le_refl _) _)).below ((Below.refl _ _).alloc (Nat.le_refl _) _)
    clear hsv hev hok h0 h1 h2 h3 h4 h6 h7 h8 HRT HTD HOKN
    go_wp2_with fail
    refine (setUp_any im fu de [inp] _ _ (HG1.out _ _) (HI0.out _)).mono ?_
    rintro e w2 ⟨hb2, (⟨hne, -⟩ | ⟨-, bp, bs, bc, cs, rfl, hM, hcs, hcm⟩)⟩
    · exact absurd (congrArg Prod.fst HAOK.out.ask) hne
    have hb2' : Below w1.heap.size w1 w2 := below_two hb2
    have HK2 : Hid (w2.heap[w1.heap.size]? = some (.cells #[.string im, .int .i64 (fu : Nat), .int .i64 (de : Nat), .string inp, .int .i64 (kd : Nat), .slice a4 sts.length c4, .slice a5 eds.length c5] 25)) := (two_new hb2).1
    have hs2 : w1.heap.size < w2.heap.size := by have := hb2.size; simp at this; omega
    have HB2 : Hid (Below w.heap.size w w2) := HB1.out.trans (hb2'.mono HB1.out.size)
    have HSM : Hid (SetM im fu de w2.heap.size (w2.alloc (.cells #[.slice (some ⟨bs, 0, none⟩) (Im.bt im 0 + 1) cs, .slice (some ⟨bc, 0, none⟩) im.size im.size, .int .i64 (fu : Nat), .int .i64 (de : Nat)] 81))) := ⟨bp, bs, bc, cs, hM.below ((Below.refl _ _).alloc (Nat.le_refl _) _), hcs, hcm, rheap_new _ _⟩
    have HSV2 : Hid (∀ o, (w2.alloc o).ownsRow w.heap.size 54 2 (.slice a4 sts.length c4) sts.length (prs sts)) := fun o => (World.ownsRow.kept (row := none) HSV.out ⟨hb2'.os, hb2'.tape, hb2'.output, hb2'.size, fun k hk _ => hb2'.block k hk⟩ (by rcases hx : (Value.slice a4 sts.length c4).ownBlock with _ | x; exact Or.inl rfl; exact Or.inr (by simp))).alloc o
    have HEV2 : Hid (Rd w2 eds.length (.slice a5 eds.length c5) (ints eds)) := (rd_owns HEV.out).below hb2'
    obtain ⟨x0, x1, x2, x3, x4, x5, x6⟩ := z7_of HK2.out
    clear hb2 hb2' hM hcs hcm HI0 HG1 HSV HEV
    obtain ⟨W2, HW2⟩ := nm (w2.alloc (.cells #[.slice (some ⟨bs, 0, none⟩) (Im.bt im 0 + 1) cs, .slice (some ⟨bc, 0, none⟩) im.size im.size, .int .i64 (fu : Nat), .int .i64 (de : Nat)] 81))
    have hz2 : W2.heap.size = w2.heap.size + 1 := by rw [← HW2.out]; simp
    have HBW : Hid (Below w2.heap.size w2 W2) := by rw [← HW2.out]; exact (Below.refl _ _).alloc (Nat.le_refl _) _
    go_wp2_with fail
    refine (ckeyOf_any w.heap.size kd de sts _ _ hd (by omega) (HSV2.out _)).mono ?_
    rintro e w3 ⟨rfl, hb3⟩
    rw [HW2.out] at HSM hb3
    have HTK : Hid (sts.take de = sts) := List.take_of_length_le hl
    rw [HTK.out]
    have HB23 : Hid (Below w2.heap.size w2 w3) := HBW.out.trans (hb3.mono (by omega))
    have HB3 : Hid (Below w.heap.size w w3) := HB2.out.trans (HB23.out.mono HB2.out.size)
    have HS3 : Hid (SetM im fu de w2.heap.size w3) := HSM.out.below hb3
    have hs3 : w1.heap.size < w3.heap.size := Nat.lt_of_lt_of_le hs2 HB23.out.size
    have hz3 : w2.heap.size < w3.heap.size := by have := hb3.size; omega
    clear hb3 x0 x1 x2 x3 x4 x5 x6 HSM HSV2
    obtain ⟨x0, x1, x2, x3, x4, x5, x6⟩ := z7_of ((HB23.out.block w1.heap.size hs2).trans HK2.out)
    obtain ⟨k, HKK⟩ := nm ((kd, sts) : Nat × List (Nat × Nat))
    rw [HKK.out]
    have hk6 : k.2.length ≤ 6 := by rw [← HKK.out]; simp; omega
    have HKV : Hid (∀ W, SetM im fu de w2.heap.size W → Calls Tryz.prog 30 #[.pointer (some ⟨w2.heap.size, 0, none⟩), .string inp, .agg #[.int .i64 (kn k 0 : Nat), .int .i64 (kn k 1 : Nat), .int .i64 (kn k 2 : Nat), .int .i64 (kn k 3 : Nat), .int .i64 (kn k 4 : Nat), .int .i64 (kn k 5 : Nat), .int .i64 (kn k 6 : Nat), .int .i64 (kn k 7 : Nat), .int .i64 (kn k 8 : Nat), .int .i64 (kn k 9 : Nat), .int .i64 (kn k 10 : Nat), .int .i64 (kn k 11 : Nat), .int .i64 (kn k 12 : Nat), .int .i64 (kn k 13 : Nat)]] W fun e w' => e = .returned (.bool (hit im fu de k inp)) ∧ Below W.heap.size W w') := fun W hW => crashesSo_any im inp fu de w2.heap.size k W hc h5 hf hd hk6 hW
    unfold kval
    have hkin := kval_info k
    have huk := Tryz.underlying85
    go_wp2_with fail
    obtain ⟨W3, HW3⟩ := nm (w3.alloc (.cells #[Value.int .i64 (kn k 0 : Nat), Value.int .i64 (kn k 1 : Nat), Value.int .i64 (kn k 2 : Nat), Value.int .i64 (kn k 3 : Nat), Value.int .i64 (kn k 4 : Nat), Value.int .i64 (kn k 5 : Nat), Value.int .i64 (kn k 6 : Nat), Value.int .i64 (kn k 7 : Nat), Value.int .i64 (kn k 8 : Nat), Value.int .i64 (kn k 9 : Nat), Value.int .i64 (kn k 10 : Nat), Value.int .i64 (kn k 11 : Nat), Value.int .i64 (kn k 12 : Nat), Value.int .i64 (kn k 13 : Nat)] 85))
    rw [HW3.out]
    have HB3W : Hid (Below w3.heap.size w3 W3) := by show Below _ _ W3; rw [← HW3.out]; exact (Below.refl _ _).alloc (Nat.le_refl _) _
    have yr : W3.rangeAt w3.heap.size 0 [Value.int .i64 (kn k 0 : Nat), Value.int .i64 (kn k 1 : Nat), Value.int .i64 (kn k 2 : Nat), Value.int .i64 (kn k 3 : Nat), Value.int .i64 (kn k 4 : Nat), Value.int .i64 (kn k 5 : Nat), Value.int .i64 (kn k 6 : Nat), Value.int .i64 (kn k 7 : Nat), Value.int .i64 (kn k 8 : Nat), Value.int .i64 (kn k 9 : Nat), Value.int .i64 (kn k 10 : Nat), Value.int .i64 (kn k 11 : Nat), Value.int .i64 (kn k 12 : Nat), Value.int .i64 (kn k 13 : Nat)] := by rw [← HW3.out]; exact range_newR _ _ _
    have HYR : Hid (W3.rangeAt w3.heap.size 0 [Value.int .i64 (kn k 0 : Nat), Value.int .i64 (kn k 1 : Nat), Value.int .i64 (kn k 2 : Nat), Value.int .i64 (kn k 3 : Nat), Value.int .i64 (kn k 4 : Nat), Value.int .i64 (kn k 5 : Nat), Value.int .i64 (kn k 6 : Nat), Value.int .i64 (kn k 7 : Nat), Value.int .i64 (kn k 8 : Nat), Value.int .i64 (kn k 9 : Nat), Value.int .i64 (kn k 10 : Nat), Value.int .i64 (kn k 11 : Nat), Value.int .i64 (kn k 12 : Nat), Value.int .i64 (kn k 13 : Nat)]) := yr
    have hzW : W3.heap.size = w3.heap.size + 1 := by rw [← HW3.out]; simp
    have hsW : w1.heap.size < W3.heap.size := by omega
    have hkW : w3.heap.size < W3.heap.size := by omega
    have y3 := (HB3W.out.cell (p := ⟨w1.heap.size, 3, none⟩) hs3).trans x3
    have y6 := (HB3W.out.cell (p := ⟨w1.heap.size, 6, none⟩) hs3).trans x6
    have HSW : Hid (SetM im fu de w2.heap.size W3) := HS3.out.below HB3W.out
    have HEW : Hid (Rd W3 eds.length (.slice a5 eds.length c5) (ints eds)) := (HEV2.out.below HB23.out).below HB3W.out
    have HBW3 : Hid (Below w.heap.size w W3) := HB3.out.trans (HB3W.out.mono HB3.out.size)
    clear x0 x1 x2 x3 x4 x5 x6 HW3
    cases hh : hit im fu de k inp with
    | true =>
      have HH : Hid (hit im fu de k inp = true) := hh
      have HTE : Hid (tells im inp fu de kd sts eds = decide ((rep im fu inp).eds = eds)) := by
        show tells im inp fu de kd sts eds = _
        unfold tells
        unfold hit at hh
        rw [HKK.out, hh]
        rfl
      clear hh
      go_region_held (fun W => W.cell? ⟨w1.heap.size, 3, none⟩ = some (.string inp) ∧ W.cell? ⟨w1.heap.size, 6, none⟩ = some (.slice a5 eds.length c5) ∧ W.rangeAt w3.heap.size 0 [Value.int .i64 (kn k 0 : Nat), Value.int .i64 (kn k 1 : Nat), Value.int .i64 (kn k 2 : Nat), Value.int .i64 (kn k 3 : Nat), Value.int .i64 (kn k 4 : Nat), Value.int .i64 (kn k 5 : Nat), Value.int .i64 (kn k 6 : Nat), Value.int .i64 (kn k 7 : Nat), Value.int .i64 (kn k 8 : Nat), Value.int .i64 (kn k 9 : Nat), Value.int .i64 (kn k 10 : Nat), Value.int .i64 (kn k 11 : Nat), Value.int .i64 (kn k 12 : Nat), Value.int .i64 (kn k 13 : Nat)]) (first | exact ⟨y3, y6, yr⟩ | exact ⟨z3, z6, zr⟩ | exact ⟨q3, q6, qr⟩ | exact ⟨t3, t6, tr⟩)
        (first
          | (go_at_call 30; go_loud (refine (HKV.out _ (HSW.out.drewN 1)).mono ?_; rintro e w4 ⟨rfl, hb4⟩; rw [HH.out]; have hb4' : Below W3.heap.size W3 w4 := ⟨hb4.os, hb4.tape, hb4.output, hb4.size, hb4.block⟩; have z3 := (hb4'.cell (p := ⟨w1.heap.size, 3, none⟩) hsW).trans y3; have z6 := (hb4'.cell (p := ⟨w1.heap.size, 6, none⟩) hsW).trans y6; have zr : w4.rangeAt w3.heap.size 0 [Value.int .i64 (kn k 0 : Nat), Value.int .i64 (kn k 1 : Nat), Value.int .i64 (kn k 2 : Nat), Value.int .i64 (kn k 3 : Nat), Value.int .i64 (kn k 4 : Nat), Value.int .i64 (kn k 5 : Nat), Value.int .i64 (kn k 6 : Nat), Value.int .i64 (kn k 7 : Nat), Value.int .i64 (kn k 8 : Nat), Value.int .i64 (kn k 9 : Nat), Value.int .i64 (kn k 10 : Nat), Value.int .i64 (kn k 11 : Nat), Value.int .i64 (kn k 12 : Nat), Value.int .i64 (kn k 13 : Nat)] := fun j v hv => (hb4'.cell (p := ⟨w3.heap.size, 0 + j, none⟩) hkW).trans (HYR.out j v hv)))
          | (go_at_call 32; go_loud (refine (srun_any im inp fu de w2.heap.size _ hc h5 hf (HSW.out.below hb4')).mono ?_; rintro e w5 ⟨v4, v5, rfl, h4, h5', hb5⟩; obtain ⟨a7, c7, hv7, -, -, -⟩ := owns_shape h4; obtain ⟨a8, c8, hv8, -, -, -⟩ := owns_shape h5'; subst hv7 hv8; have hb5' : Below W3.heap.size W3 w5 := hb4'.trans (hb5.mono hb4'.size); have q3 := (hb5'.cell (p := ⟨w1.heap.size, 3, none⟩) hsW).trans y3; have q6 := (hb5'.cell (p := ⟨w1.heap.size, 6, none⟩) hsW).trans y6; have qr : w5.rangeAt w3.heap.size 0 [Value.int .i64 (kn k 0 : Nat), Value.int .i64 (kn k 1 : Nat), Value.int .i64 (kn k 2 : Nat), Value.int .i64 (kn k 3 : Nat), Value.int .i64 (kn k 4 : Nat), Value.int .i64 (kn k 5 : Nat), Value.int .i64 (kn k 6 : Nat), Value.int .i64 (kn k 7 : Nat), Value.int .i64 (kn k 8 : Nat), Value.int .i64 (kn k 9 : Nat), Value.int .i64 (kn k 10 : Nat), Value.int .i64 (kn k 11 : Nat), Value.int .i64 (kn k 12 : Nat), Value.int .i64 (kn k 13 : Nat)] := fun j v hv => (hb5'.cell (p := ⟨w3.heap.size, 0 + j, none⟩) hkW).trans (HYR.out j v hv); have hfld := fun w => field_edgesR (.int .i64 ((rep im fu inp).fa : Nat)) (.int .i64 ((rep im fu inp).pa : Nat)) (.int .i64 ((rep im fu inp).kd : Nat)) (.int .i64 ((rep im fu inp).en : Nat)) (.slice a7 (rep im fu inp).sts.length c7) (.slice a8 (rep im fu inp).eds.length c8) (.int .i64 ((rep im fu inp).k : Nat)) (.int .i64 (rep im fu inp).top) w))
          | (go_at_call 31; go_loud (refine (equal_dec _ _ (rep im fu inp).eds eds _ (rd_owns h5') (HEW.out.below hb5')).mono ?_; rintro e w6 ⟨rfl, hb6⟩; have hb6' : Below W3.heap.size W3 w6 := hb5'.trans (hb6.mono hb5'.size); have t3 := (hb6'.cell (p := ⟨w1.heap.size, 3, none⟩) hsW).trans y3; have t6 := (hb6'.cell (p := ⟨w1.heap.size, 6, none⟩) hsW).trans y6; have tr : w6.rangeAt w3.heap.size 0 [Value.int .i64 (kn k 0 : Nat), Value.int .i64 (kn k 1 : Nat), Value.int .i64 (kn k 2 : Nat), Value.int .i64 (kn k 3 : Nat), Value.int .i64 (kn k 4 : Nat), Value.int .i64 (kn k 5 : Nat), Value.int .i64 (kn k 6 : Nat), Value.int .i64 (kn k 7 : Nat), Value.int .i64 (kn k 8 : Nat), Value.int .i64 (kn k 9 : Nat), Value.int .i64 (kn k 10 : Nat), Value.int .i64 (kn k 11 : Nat), Value.int .i64 (kn k 12 : Nat), Value.int .i64 (kn k 13 : Nat)] := fun j v hv => (hb6'.cell (p := ⟨w3.heap.size, 0 + j, none⟩) hkW).trans (HYR.out j v hv))))
      all_goals
        have HB6 : Hid (Below w.heap.size w w6) := HBW3.out.trans (hb6'.mono HBW3.out.size)
        have HRT3 : Hid (R = if decide ((rep im fu inp).eds = eds) = true then 0 else 9) := by
          show R = _
          rw [HRT2.out, HTE.out]
        generalize decide ((rep im fu inp).eds = eds) = D at *
        clear hb4 hb4' hb5 hb5' hb6 hb6' h4 h5' z3 z6 zr q3 q6 qr t3 t6 tr y3 y6 yr hfld hkin huk
        cases D with
        | true =>
          have HF : Hid (R = 0) := HRT3.out
          go_wp2
          go_ret
          exact ⟨by rw [HF.out]; first | done | rfl, HB6.out⟩
        | false =>
          have HF : Hid (R = 9) := HRT3.out
          go_wp2
          go_ret
          exact ⟨by rw [HF.out]; first | done | rfl, HB6.out⟩
    | false =>
      have HH : Hid (hit im fu de k inp = false) := hh
      have HF : Hid (R = 9) := by
        show R = 9
        rw [HRT2.out]
        unfold tells
        unfold hit at hh
        rw [HKK.out, hh]
        rfl
      clear hh
      have hwc3 := range_cellsR k HYR.out
      first
        | (go_region_law (first | (go_simp; go_at_call 30; go_loud (refine (HKV.out _ (HSW.out.drewN 1)).mono ?_; rintro e w4 ⟨rfl, hb4⟩; rw [HH.out]; have hb4' : Below W3.heap.size W3 w4 := ⟨hb4.os, hb4.tape, hb4.output, hb4.size, hb4.block⟩))))
        | fail
      all_goals
        have HB4 : Hid (Below w.heap.size w w4) := HBW3.out.trans (hb4'.mono HBW3.out.size)
        clear hb4 hb4' y3 y6 yr hkin huk hwc3
        go_wp2
        go_ret
        exact ⟨by rw [HF.out]; first | done | rfl, HB4.out⟩
  · have HF : Hid (R = 8) := by
      show R = 8
      rw [← HR.out]
      unfold replP
      rw [if_neg hno]
    clear hno
    unfold zeroV
    go_wp2
    go_ret
    exact ⟨by rw [HF.out]; first | done | rfl, HB1.out.alloc HB1.out.size _⟩
end Go.Proofs.YtbmaiioecnmopabGreatDoor
