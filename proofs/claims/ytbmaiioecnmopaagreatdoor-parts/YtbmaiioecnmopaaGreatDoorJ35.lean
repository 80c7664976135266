/-
  BkD, BkF: THESE TEXTS, JOINED. By the verifier of the loop 'triage'.
-/
import Derived.Test.YtbmaiioecnmopaaGreatDoorJ34
import Derived.Test.YtbmaiioecnmopaaGreatDoorJ32
import Derived.Test.YtbmaiioecnmopaaGreatDoorJ30
import Derived.Deep.RegionHeld3
import Derived.Deep.AppendLies
/-
  BUCKETS, THE PROGRAM's SIDE (package triage): kind and sites of a key. By the verifier of the loop 'triage'.
-/
namespace Go.Proofs.YtbmaiioecnmopaaGreatDoor
open Go.RowKit

theorem Tryz.infoSiteK : (Tryz.prog.info? 34).map (fun i => (i.zero, i.size, i.bytes)) = some (some (.agg #[.int .i64 0, .int .i64 0]), 2, 16) := by kernel_rfl
theorem Tryz.undSitesK : Tryz.prog.underlying 37 = some (.slice 34) := by kernel_rfl
theorem kn_zero (k : Bk.Ky) : kn k 0 = k.1 := rfl
theorem kn_one (k : Bk.Ky) : kn k 1 = k.2.length := rfl
theorem kn_fn (k : Bk.Ky) (j : Nat) (hj : j < 6) : kn k (2 + 2 * j) = (k.2[j]?.getD (0, 0)).1 := by
  unfold kn kp
  rw [if_neg (by omega), if_neg (by omega), if_pos (by omega), if_pos (by omega), show (2 + 2 * j - 2) / 2 = j from by omega]
theorem kn_pl (k : Bk.Ky) (j : Nat) (hj : j < 6) : kn k (3 + 2 * j) = (k.2[j]?.getD (0, 0)).2 := by
  unfold kn kp
  rw [if_neg (by omega), if_neg (by omega), if_pos (by omega), if_neg (by omega), show (3 + 2 * j - 2) / 2 = j from by omega]
theorem box_cells (k : Bk.Ky) {w : World} {b : Nat} {t : TypeId} (c1 : w.heap[b]? = some (.cells #[.int .i64 (kn k 0 : Nat), .int .i64 (kn k 1 : Nat), .int .i64 (kn k 2 : Nat), .int .i64 (kn k 3 : Nat), .int .i64 (kn k 4 : Nat), .int .i64 (kn k 5 : Nat), .int .i64 (kn k 6 : Nat), .int .i64 (kn k 7 : Nat), .int .i64 (kn k 8 : Nat), .int .i64 (kn k 9 : Nat), .int .i64 (kn k 10 : Nat), .int .i64 (kn k 11 : Nat), .int .i64 (kn k 12 : Nat), .int .i64 (kn k 13 : Nat)] t (0, 0))) : ∀ o, o < 14 → w.cell? ⟨b, o, none⟩ = some (.int .i64 (kn k o : Nat)) := by
  intro o ho
  refine rcell_of c1 ?_
  obtain rfl | rfl | rfl | rfl | rfl | rfl | rfl | rfl | rfl | rfl | rfl | rfl | rfl | rfl : o = 0 ∨ o = 1 ∨ o = 2 ∨ o = 3 ∨ o = 4 ∨ o = 5 ∨ o = 6 ∨ o = 7 ∨ o = 8 ∨ o = 9 ∨ o = 10 ∨ o = 11 ∨ o = 12 ∨ o = 13 := by omega
  all_goals rfl

set_option maxHeartbeats 800000 in
set_option maxRecDepth 100000 in
theorem ckind_any (k : Bk.Ky) (w : World) : Calls Tryz.prog 37 #[kval k] w fun e w' => e = .returned (.int .i64 (k.1 : Nat)) ∧ Below w.heap.size w w' := by
  rw [← kn_zero k]
  unfold kval
  go_enter Tryz.func37, Tryz.ntmps37
  go_wp2
  go_ret
  exact ⟨rfl, (Below.refl _ _).alloc (Nat.le_refl _) _⟩

set_option maxHeartbeats 1600000 in
set_option maxRecDepth 100000 in
theorem csites_any (k : Bk.Ky) (w : World) (hk : k.2.length ≤ 6) : Calls Tryz.prog 38 #[kval k] w fun e w' => ∃ v, e = .returned v ∧ w'.ownsRow w.heap.size 34 2 v k.2.length (prs k.2) ∧ Below w.heap.size w w' := by
  obtain ⟨i0, hi, hz0, hz1, hz2⟩ := info_parts Tryz.infoSiteK
  have HK1 : Hid (kn k 1 = k.2.length) := kn_one k
  have HFN : Hid (∀ j, j < 6 → kn k (2 + 2 * j) = (k.2[j]?.getD (0, 0)).1) := kn_fn k
  have HPL : Hid (∀ j, j < 6 → kn k (3 + 2 * j) = (k.2[j]?.getD (0, 0)).2) := kn_pl k
  have HBX : Hid (∀ (t : TypeId), ∀ o, o < 14 → (w.alloc (.cells #[.int .i64 (kn k 0 : Nat), .int .i64 (kn k 1 : Nat), .int .i64 (kn k 2 : Nat), .int .i64 (kn k 3 : Nat), .int .i64 (kn k 4 : Nat), .int .i64 (kn k 5 : Nat), .int .i64 (kn k 6 : Nat), .int .i64 (kn k 7 : Nat), .int .i64 (kn k 8 : Nat), .int .i64 (kn k 9 : Nat), .int .i64 (kn k 10 : Nat), .int .i64 (kn k 11 : Nat), .int .i64 (kn k 12 : Nat), .int .i64 (kn k 13 : Nat)] t)).cell? ⟨w.heap.size, o, none⟩ = some (.int .i64 (kn k o : Nat))) := fun t => box_cells k (rheap_new _ _)
  obtain ⟨n, HN⟩ : ∃ n, Hid (k.2.length = n) := ⟨_, rfl⟩
  rw [HN.out] at hk HK1
  rw [HN.out]
  unfold kval
  go_enter Tryz.func38, Tryz.ntmps38
  have hb1 := HBX.out 78
  have HB0 : Hid (Below w.heap.size w (w.alloc (.cells #[.int .i64 (kn k 0 : Nat), .int .i64 (kn k 1 : Nat), .int .i64 (kn k 2 : Nat), .int .i64 (kn k 3 : Nat), .int .i64 (kn k 4 : Nat), .int .i64 (kn k 5 : Nat), .int .i64 (kn k 6 : Nat), .int .i64 (kn k 7 : Nat), .int .i64 (kn k 8 : Nat), .int .i64 (kn k 9 : Nat), .int .i64 (kn k 10 : Nat), .int .i64 (kn k 11 : Nat), .int .i64 (kn k 12 : Nat), .int .i64 (kn k 13 : Nat)] 78))) := (Below.refl _ _).alloc (Nat.le_refl _) _
  go_wp2
  have hs1 : (w.alloc (.cells #[.int .i64 (kn k 0 : Nat), .int .i64 (kn k 1 : Nat), .int .i64 (kn k 2 : Nat), .int .i64 (kn k 3 : Nat), .int .i64 (kn k 4 : Nat), .int .i64 (kn k 5 : Nat), .int .i64 (kn k 6 : Nat), .int .i64 (kn k 7 : Nat), .int .i64 (kn k 8 : Nat), .int .i64 (kn k 9 : Nat), .int .i64 (kn k 10 : Nat), .int .i64 (kn k 11 : Nat), .int .i64 (kn k 12 : Nat), .int .i64 (kn k 13 : Nat)] 78)).heap.size = w.heap.size + 1 := by simp
  generalize w.alloc (.cells #[.int .i64 (kn k 0 : Nat), .int .i64 (kn k 1 : Nat), .int .i64 (kn k 2 : Nat), .int .i64 (kn k 3 : Nat), .int .i64 (kn k 4 : Nat), .int .i64 (kn k 5 : Nat), .int .i64 (kn k 6 : Nat), .int .i64 (kn k 7 : Nat), .int .i64 (kn k 8 : Nat), .int .i64 (kn k 9 : Nat), .int .i64 (kn k 10 : Nat), .int .i64 (kn k 11 : Nat), .int .i64 (kn k 12 : Nat), .int .i64 (kn k 13 : Nat)] 78) = W0 at *
  rw [HK1.out]
  go_loopw [3, 7] (fun v i wr => ∃ j : Nat, i = .int .i64 j ∧ j ≤ n ∧ wr.ownsRow (w.heap.size + 1) 34 2 v (k.2.take j).length (prs (k.2.take j)) ∧ Below (w.heap.size + 1) W0 wr) (fun _ i _ => n - (intOf i).toNat)
  case atStart => exact ⟨0, rfl, by omega, World.ownsRow_nil _ _ _ _, Below.refl _ _⟩
  case round =>
    obtain ⟨j, rfl, hj, hown, hB⟩ := hrel
    by_cases hlt : j < n
    · have x1 := (hB.cell (p := ⟨w.heap.size, 2 + 2 * j, none⟩) (Nat.lt_succ_self _)).trans (hb1 (2 + 2 * j) (by omega))
      have y1 := (hB.cell (p := ⟨w.heap.size, 3 + 2 * j, none⟩) (Nat.lt_succ_self _)).trans (hb1 (3 + 2 * j) (by omega))
      rw [HFN.out j (by omega)] at x1
      rw [HPL.out j (by omega)] at y1
      have HT : Hid (k.2.take (j + 1) = k.2.take j ++ [k.2[j]?.getD (0, 0)]) := by
        show k.2.take (j + 1) = _
        rw [List.take_add_one, List.getElem?_eq_getElem (by rw [HN.out]; exact hlt)]; rfl
      generalize k.2[j]?.getD (0, 0) = x at *
      have hlt2 : (k.2.take j).length ≤ 100 := by have := List.length_take_le j k.2; omega
      generalize k.2.take j = R at *
      obtain ⟨a2, cap2, hv2, -, -, -⟩ := owns_shape hown
      subst hv2
      have hbs := hB.size
      have hgw : w.heap.size < wr.heap.size := by omega
      have hwa : IntKind.wrap .i64 (2 * ((j : Nat) : Int)) = 2 * ((j : Nat) : Int) := wrap_mul2 j (by omega)
      have hwb : IntKind.wrap .i64 (2 + 2 * ((j : Nat) : Int)) = 2 + 2 * ((j : Nat) : Int) := wrap_add2 2 j (by omega) (by omega)
      have hwc : IntKind.wrap .i64 (3 + 2 * ((j : Nat) : Int)) = 3 + 2 * ((j : Nat) : Int) := wrap_add2 3 j (by omega) (by omega)
      have hta : (2 + 2 * ((j : Nat) : Int)).toNat = 2 + 2 * j := by omega
      have htb : (3 + 2 * ((j : Nat) : Int)).toNat = 3 + 2 * j := by omega
      have hia : (0 : Int) ≤ 2 + 2 * ((j : Nat) : Int) := by omega
      have hib : (0 : Int) ≤ 3 + 2 * ((j : Nat) : Int) := by omega
      have hic : 2 + 2 * ((j : Nat) : Int) < 14 := by omega
      have hid : 3 + 2 * ((j : Nat) : Int) < 14 := by omega
      clear hb1
      go_wp2
      go_region_law (refine step_append_fresh rfl (.tmp 10) (.tmp 22) 37 rfl (w.heap.size + 1) 34 i0 (.agg #[.int .i64 0, .int .i64 0]) 2 16 Tryz.undSitesK hi hz0 hz1 hz2 rfl (by decide) (.slice a2 R.length cap2) R.length (prs R) rfl (by exact hown.alloc _) ⟨wr.heap.size, 0, none⟩ 1 1 [.int .i64 (x.1 : Nat), .int .i64 (x.2 : Nat)] rfl rfl (by exact news2 _ _ _ _) (by exact ones2 _ _ _) (by unfold maxLen; omega) (by omega) (by exact Nat.le_trans (Nat.le_trans (by rw [hs1]; exact Nat.le_refl _) hbs) (by simp)) ?_; intro v' w1 hown' hgrow hfr; obtain ⟨g', cap', hv', -⟩ := owns_some hown' (by omega); subst hv')
      all_goals
        have hgrow2 : (wr.alloc (.cells #[.int .i64 (x.1 : Nat), .int .i64 (x.2 : Nat)] 34)).grownBy w1 (Value.slice a2 R.length cap2).ownBlock := ⟨hgrow.os, hgrow.tape, hgrow.output, hgrow.size, hgrow.block⟩
        have hb2 : Below (w.heap.size + 1) W0 w1 := below_app hown hgrow2 hB (by rw [hs1] at hbs; exact hbs)
        have ho1 : w1.ownsRow (w.heap.size + 1) 34 2 (.slice (some ⟨g', 0, none⟩) (R.length + 1) cap') (k.2.take (j + 1)).length (prs (k.2.take (j + 1))) := by
          rw [HT.out, prs_append]
          simpa [prs] using hown'
        have HB1 : Hid _ := hb2
        have HO1 : Hid _ := ho1
        clear hown' hgrow hgrow2 hfr hown hB hb2 ho1 x1 y1
        go_wp2
        go_roundw
        case rel => exact ⟨j + 1, by go_num, by omega, HO1.out, HB1.out⟩
        case measure => simp [intOf]; omega
    · obtain rfl : j = n := by omega
      rw [List.take_of_length_le (by rw [HN.out]; omega), HN.out] at hown
      obtain ⟨a2, cap2, hv2, -, -, -⟩ := owns_shape hown
      subst hv2
      have HB : Hid (Below w.heap.size w wr) := HB0.out.trans (hB.mono (Nat.le_succ _))
      have HO : Hid (wr.ownsRow w.heap.size 34 2 (.slice a2 j cap2) j (prs k.2)) := owns_base hown (Nat.le_succ _)
      clear hB hown
      go_wp2
      go_ret
      exact ⟨_, rfl, HO.out, HB.out⟩
end Go.Proofs.YtbmaiioecnmopaaGreatDoor

/-
  BUCKETS, THE DOCUMENT's SIDE (package triageref): Buckets. By the verifier of the loop 'triage'.
-/
namespace Go.Proofs.YtbmaiioecnmopaaGreatDoor
open Go.RowKit

theorem below_grownR {B : Nat} {a w w' : World} {row : Option Nat} (h : Below B a w) (hg : w.grownBy w' row) (hB : B ≤ w.heap.size) (hr : ∀ k, row = some k → B ≤ k) : Below B a w' :=
  ⟨hg.os.trans h.os, hg.tape.trans h.tape, hg.output.trans h.output, Nat.le_trans h.size hg.size, fun k hk => (hg.block k (by omega) (by intro e; have := hr k e.symm; omega)).trans (h.block k hk)⟩
def zs (L : List ByteArray) (i : Nat) : Nat := (L[i]?.getD ByteArray.empty).size
def kys (s : ByteArray) (fu d : Nat) (L : List ByteArray) (i : Nat) : Option Bk.Ky := ky s fu d (L[i]?.getD ByteArray.empty)
/-- what Buckets answers, of either side. -/
def BkPost (tB tS : TypeId) (s : ByteArray) (fuel depth : Int) (L : List ByteArray) (w w' : World) (e : Ending) : Prop :=
  Below w.heap.size w w' ∧
  (((askP s fuel depth L).1 ≠ 0 ∧ e = .returned (.tuple #[.slice none 0 0, .int .i64 (askP s fuel depth L).1, .int .i64 (askP s fuel depth L).2])) ∨
   (AskOk s fuel depth L ∧ ∃ S M v, e = .returned (.tuple #[v, .int .i64 0, .int .i64 0]) ∧ BkM tB tS w.heap.size (Bk.bks (kys s fuel.toNat depth.toNat L) (zs L) L.length) S M v w'))
theorem bkAt_mem {l : List Bk.Bk} {i : Nat} (hi : i < l.length) : bkAt l i ∈ l := by unfold bkAt; rw [List.getElem?_eq_getElem hi]; exact List.getElem_mem hi
theorem addm_get {l : List Bk.Bk} {i j : Nat} (hi : i < l.length) : (bkAt (addm l i j) i).rep = (bkAt l i).rep := by unfold addm; rw [bkAt_set_eq _ hi]
theorem idx_eq {l : List Bk.Bk} {k : Bk.Ky} {b : Nat} (hb : b ≤ Bk.idx l k) (hl : b < l.length) (hk : (bkAt l b).key = k) : b = Bk.idx l k := by
  by_cases h : b < Bk.idx l k
  · exfalso
    have he : l[b]? = some (bkAt l b) := by unfold bkAt; rw [List.getElem?_eq_getElem hl]; rfl
    exact Bk.idx_no l k b _ h he hk
  · omega
theorem idx_lt {l : List Bk.Bk} {k : Bk.Ky} {b : Nat} (hb : b ≤ Bk.idx l k) (hl : b < l.length) (hk : (bkAt l b).key ≠ k) : b + 1 ≤ Bk.idx l k := by
  by_cases h : b = Bk.idx l k
  · exfalso
    subst h
    obtain ⟨c, hc, hck⟩ := Bk.idx_at l k hl
    apply hk
    unfold bkAt
    rw [hc]
    exact hck
  · omega
theorem news4 (w : World) (t : TypeId) (x0 x1 x2 x3 : Value) : ∀ j u, [x0, x1, x2, x3][j]? = some u → (w.alloc (.cells #[x0, x1, x2, x3] t)).cell? ((⟨w.heap.size, 0, none⟩ : Addr).add j) = some u :=
  World.news_of_block (rheap_new w (.cells #[x0, x1, x2, x3] t))
theorem ones4 (n m : Nat) (a b : Option Addr) (x y z t : Nat) : ∀ u ∈ [Value.int .i64 (n : Nat), .slice a x y, .slice b z t, .int .i64 (m : Nat)], u.oneCell' = true := by
  intro u hu
  repeat (rcases List.mem_cons.1 hu with rfl | hu; · rfl)
  cases hu
theorem ints1 (j : Nat) : ∀ u ∈ [Value.int .i64 (j : Nat)], u.oneCell' = true := by
  intro u hu
  repeat (rcases List.mem_cons.1 hu with rfl | hu; · rfl)
  cases hu
theorem two_cells {w : World} {b : Nat} {v0 v1 : Value} {t : TypeId} (h : w.heap[b]? = some (.cells #[v0, v1] t (0, 0))) : w.cell? ⟨b, 0, none⟩ = some v0 ∧ w.cell? ⟨b, 1, none⟩ = some v1 := ⟨rcell_of h rfl, rcell_of h rfl⟩
theorem add_known {l : List Bk.Bk} {k : Bk.Ky} (i : Nat) (h : Bk.idx l k < l.length) : Bk.add l k i = l := if_pos h
theorem add_new {l : List Bk.Bk} {k : Bk.Ky} (i : Nat) (h : Bk.idx l k = l.length) : Bk.add l k i = l ++ [⟨k, [], i⟩] := if_neg (by omega)
theorem put_yes {Z : Nat → Nat} {l : List Bk.Bk} {n i : Nat} (hn : n < l.length) (h : Z i < Z (bkAt l n).rep) : Bk.put Z l n i = setr (addm l n i) n i := by rw [put_parts Z l n i hn, if_pos h]
theorem put_no {Z : Nat → Nat} {l : List Bk.Bk} {n i : Nat} (hn : n < l.length) (h : ¬ Z i < Z (bkAt l n).rep) : Bk.put Z l n i = addm l n i := by rw [put_parts Z l n i hn, if_neg h]
/-- what the append to a bucket's members leaves of the buckets' row. -/
theorem BkM.mid {tB tS : TypeId} {base : Nat} {l : List Bk.Bk} {S M : Nat → Value} {w w' : World} {g cap n i : Nat} (h : BkM tB tS base l S M (.slice (some ⟨g, 0, none⟩) n cap) w) (hn : n = l.length) (h2 : tB ≠ 3) (hi : i < l.length) (hg : w.grownBy w' (M i).ownBlock) :
    w'.cell? ⟨g, i * 4 + 2, none⟩ = some (M i) ∧ w'.cell? ⟨g, i * 4 + 3, none⟩ = some (.int .i64 ((bkAt l i).rep : Nat)) ∧ (∀ o, w'.frozen? ⟨g, o, none⟩ = false) := by
  subst hn
  have hne : some g ≠ (M i).ownBlock := by
    rcases owns_kind h.row (h.mem i hi) h2 with e | e
    · cases e
    · exact e
  have hlt : g < w.heap.size := (h.row.lt g rfl).2
  refine ⟨(hg.cell_far ⟨g, i * 4 + 2, none⟩ hlt hne).trans (h.c2 rfl hi), (hg.cell_far ⟨g, i * 4 + 3, none⟩ hlt hne).trans (h.c3 rfl hi), fun o => (hg.frozen_far ⟨g, o, none⟩ hlt hne).trans (h.frz rfl o)⟩

/-- a member more, in one stroke. -/
theorem BkM.grow {tB tS : TypeId} {base : Nat} {l : List Bk.Bk} {S M : Nat → Value} {w w9 : World} {g cap n i j m g9 cap9 : Nat} {o : Obj} (h : BkM tB tS base l S M (.slice (some ⟨g, 0, none⟩) n cap) w) (hn : n = l.length) (h2 : tB ≠ 3) (h3 : tS ≠ 3) (h1 : tB ≠ tS) (hi : i < l.length) (hm : m = (bkAt l i).mem.length)
    (hown : w9.ownsRow base 3 1 (.slice (some ⟨g9, 0, none⟩) (m + 1) cap9) (m + 1) (ints (bkAt l i).mem ++ [.int .i64 (j : Nat)])) (hgr : (w.alloc o).grownBy w9 (M i).ownBlock) (hat : (M i).ownBlock = some g9 ∨ g9 = w.heap.size + 1) :
    (w9.cell? ⟨g, i * 4 + 2, none⟩ = some (M i) ∧ w9.cell? ⟨g, i * 4 + 3, none⟩ = some (.int .i64 ((bkAt l i).rep : Nat)) ∧ (∀ o, w9.frozen? ⟨g, o, none⟩ = false)) ∧
    BkM tB tS base (addm l i j) S (updF M i (.slice (some ⟨g9, 0, none⟩) (m + 1) cap9)) (.slice (some ⟨g, 0, none⟩) n cap) (w9.setCell ⟨g, i * 4 + 2, none⟩ (.slice (some ⟨g9, 0, none⟩) (m + 1) cap9)) := by
  have ha := h.alloc o
  refine ⟨ha.mid hn h2 hi hgr, ?_⟩
  subst hm
  refine ha.more hn h2 h3 h1 hi hown hgr ?_
  rcases hat with e | e
  · left; rw [e]; rfl
  · right; rw [e]; simp [Value.ownBlock]
theorem BkM.ge {tB tS : TypeId} {base : Nat} {l : List Bk.Bk} {S M : Nat → Value} {w : World} {g cap n : Nat} (h : BkM tB tS base l S M (.slice (some ⟨g, 0, none⟩) n cap) w) : base ≤ g ∧ g < w.heap.size := h.row.lt g rfl
theorem BkM.row_ge {tB tS : TypeId} {base : Nat} {l : List Bk.Bk} {S M : Nat → Value} {v : Value} {w : World} (h : BkM tB tS base l S M v w) {i : Nat} (hi : i < l.length) : ∀ k, (M i).ownBlock = some k → base ≤ k := fun k hk => ((h.mem i hi).lt k hk).1

end Go.Proofs.YtbmaiioecnmopaaGreatDoor
