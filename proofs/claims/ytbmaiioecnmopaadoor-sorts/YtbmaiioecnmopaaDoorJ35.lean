/-
  BkC, BkD, BkF: THESE TEXTS, JOINED. By the verifier of the loop 'triage'.
-/
import Derived.Test.YtbmaiioecnmopaaDoorJ34
import Derived.Test.YtbmaiioecnmopaaDoorJ28
import Derived.Test.YtbmaiioecnmopaaDoorJ32
import Derived.Test.YtbmaiioecnmopaaDoorJ30
import Derived.Deep.RegionHeld3
import Derived.Deep.AppendLies
/-
  BUCKETS: the numbers of a key are small. By the verifier of the loop 'triage'.
-/
namespace Go.Proofs.YtbmaiioecnmopaaDoor
open Go.RowKit

theorem ite_kind {c : Prop} [Decidable c] {a b : Im.St × Nat} (ha : a.2 ≤ 10) (hb : b.2 ≤ 10) : (if c then a else b).2 ≤ 10 := by
  by_cases h : c
  · rw [if_pos h]; exact ha
  · rw [if_neg h]; exact hb
theorem step_kind (s inp : ByteArray) (m : Im.St) : (Im.stepP s inp m).2 ≤ 10 := by
  unfold Im.stepP
  repeat' (first | exact Nat.le_of_ble_eq_true rfl | apply ite_kind)
theorem bt_in {s : ByteArray} {i : Nat} (h : Im.bt s i ≠ 0) : i < s.size := by
  by_cases hi : i < s.size
  · exact hi
  · exfalso
    apply h
    unfold Im.bt
    simp [hi]
theorem run_vals (s inp : ByteArray) (n : Nat) (ho : Im.Okay s n) : ∀ f m k, Im.Good s inp n m → (∀ c ∈ (Im.runP s inp f m k).2.2.1.cal, c.1 < n ∧ c.2 < s.size) ∧ (Im.runP s inp f m k).2.1 ≤ 10 := by
  intro f
  have hcal : ∀ m, Im.Good s inp n m → ∀ c ∈ m.cal, c.1 < n ∧ c.2 < s.size := by
    intro m hg c hc
    obtain ⟨h1, -, h3⟩ := hg.hcv c hc
    exact ⟨h1, bt_in (by rw [h3]; decide)⟩
  induction f with
  | zero => intro m k hg; exact ⟨hcal m hg, Nat.zero_le _⟩
  | succ f ih =>
    intro m k hg
    unfold Im.runP
    by_cases h0 : (Im.stepP s inp m).2 = 0
    · rw [if_pos h0]; exact ih _ _ (Im.good_step s inp n m ho hg h0)
    · have hs := Im.step_stays s inp m h0
      rw [if_neg h0]
      by_cases h10 : (Im.stepP s inp m).2 = 10
      · rw [if_pos h10]; show (∀ c ∈ (Im.stepP s inp m).1.cal, _) ∧ _; rw [hs]; exact ⟨hcal m hg, Nat.zero_le _⟩
      · rw [if_neg h10]; show (∀ c ∈ (Im.stepP s inp m).1.cal, _) ∧ (Im.stepP s inp m).2 ≤ 10; rw [hs]; exact ⟨hcal m hg, step_kind s inp m⟩
theorem ky_ok {s inp : ByteArray} {fuel d : Nat} {k : Bk.Ky} (hc : Im.chk s = (0, 0)) (hd : d ≤ 6) (h : ky s fuel d inp = some k) : KOk k := by
  have ho := Im.okay_of s hc
  obtain ⟨hv, hk⟩ := run_vals s inp _ ho fuel _ 0 (Im.good_start s inp _ ho)
  have hn := ho.n6
  have hz := ho.hs
  obtain ⟨-, rfl⟩ := ky_some h
  have hlen : ((rep s fuel inp).sts.take d).length ≤ 6 := by rw [List.length_take]; omega
  refine ⟨hlen, ?_⟩
  have hsv : ∀ j : Nat, (((rep s fuel inp).sts.take d)[j]?.getD (0, 0)).1 ≤ 200 ∧ (((rep s fuel inp).sts.take d)[j]?.getD (0, 0)).2 ≤ 200 := by
    intro j
    by_cases hj : j < ((rep s fuel inp).sts.take d).length
    · rw [List.getElem?_eq_getElem hj]
      have hm : ((rep s fuel inp).sts.take d)[j] ∈ (rep s fuel inp).sts := List.mem_of_mem_take (List.getElem_mem hj)
      have hmm : ∀ c ∈ (rep s fuel inp).sts, c ∈ (Im.runP s inp fuel (Im.st0 s) 0).2.2.1.cal := by
        intro c hc
        have hc' : c ∈ rsts (Im.runP s inp fuel (Im.st0 s) 0) := hc
        unfold rsts at hc'
        split at hc'
        · exact List.mem_reverse.1 hc'
        · cases hc'
      have hm2 := hmm _ hm
      have := hv _ hm2
      show (((rep s fuel inp).sts.take d)[j]).1 ≤ 200 ∧ (((rep s fuel inp).sts.take d)[j]).2 ≤ 200
      omega
    · rw [List.getElem?_eq_none (by omega)]; exact ⟨Nat.zero_le _, Nat.zero_le _⟩
  intro i _
  have hkd : (rep s fuel inp).kd ≤ 10 := hk
  unfold kn kp
  dsimp only
  have h7 := hsv ((i - 2) / 2)
  repeat' split
  all_goals omega
end Go.Proofs.YtbmaiioecnmopaaDoor

/-
  BUCKETS, THE PROGRAM's SIDE (package triage): kind and sites of a key. By the verifier of the loop 'triage'.
-/
namespace Go.Proofs.YtbmaiioecnmopaaDoor
open Go.RowKit

theorem Tryd.infoSiteK : (Tryd.prog.info? 39).map (fun i => (i.zero, i.size, i.bytes)) = some (some (.agg #[.int .i64 0, .int .i64 0]), 2, 16) := by kernel_rfl
theorem Tryd.undSitesK : Tryd.prog.underlying 42 = some (.slice 39) := by kernel_rfl
theorem kn_zero (k : Bk.Ky) : kn k 0 = k.1 := rfl
theorem kn_one (k : Bk.Ky) : kn k 1 = k.2.length := rfl
theorem kn_fn (k : Bk.Ky) (j : Nat) (hj : j < 6) : kn k (2 + 2 * j) = (k.2[j]?.getD (0, 0)).1 := by
  unfold kn kp
  rw [if_neg (by omega), if_neg (by omega), if_pos (by omega), if_pos (by omega), show (2 + 2 * j - 2) / 2 = j from by omega]
theorem kn_pl (k : Bk.Ky) (j : Nat) (hj : j < 6) : kn k (3 + 2 * j) = (k.2[j]?.getD (0, 0)).2 := by
  unfold kn kp
  rw [if_neg (by omega), if_neg (by omega), if_pos (by omega), if_neg (by omega), show (3 + 2 * j - 2) / 2 = j from by omega]
theorem box_cells (k : Bk.Ky) {w : World} {b : Nat} {t : TypeId} (c1 : w.heap[b]? = some (.cells #[.int .i64 (kn k 0 : Nat), .int .i64 (kn k 1 : Nat), .int .i64 (kn k 2 : Nat), .int .i64 (kn k 3 : Nat), .int .i64 (kn k 4 : Nat), .int .i64 (kn k 5 : Nat), .int .i64 (kn k 6 : Nat), .int .i64 (kn k 7 : Nat), .int .i64 (kn k 8 : Nat), .int .i64 (kn k 9 : Nat), .int .i64 (kn k 10 : Nat), .int .i64 (kn k 11 : Nat), .int .i64 (kn k 12 : Nat), .int .i64 (kn k 13 : Nat)] t (0, 0))) : ∀ o, o < 14 → w.cell? ⟨b, o, none⟩ = some (.int .i64 (kn k o : Nat)) := by
  intro o ho
  refine rcell_of c1 ?_
  obtain rfl | rfl | rfl | rfl | rfl | rfl | rfl | rfl | rfl | rfl | rfl | rfl | rfl | rfl : o = 0 ∨ o = 1 ∨ o = 2 ∨ o = 3 ∨ o = 4 ∨ o = 5 ∨ o = 6 ∨ o = 7 ∨ o = 8 ∨ o = 9 ∨ o = 10 ∨ o = 11 ∨ o = 12 ∨ o = 13 := by omega
  all_goals rfl

set_option maxHeartbeats 800000 in
set_option maxRecDepth 100000 in
theorem ckind_any (k : Bk.Ky) (w : World) : Calls Tryd.prog 73 #[kval k] w fun e w' => e = .returned (.int .i64 (k.1 : Nat)) ∧ Below w.heap.size w w' := by
  rw [← kn_zero k]
  unfold kval
  go_enter Tryd.func73, Tryd.ntmps73
  go_wp2
  go_ret
  exact ⟨rfl, (Below.refl _ _).alloc (Nat.le_refl _) _⟩

set_option maxHeartbeats 1600000 in
set_option maxRecDepth 100000 in
theorem csites_any (k : Bk.Ky) (w : World) (hk : k.2.length ≤ 6) : Calls Tryd.prog 74 #[kval k] w fun e w' => ∃ v, e = .returned v ∧ w'.ownsRow w.heap.size 39 2 v k.2.length (prs k.2) ∧ Below w.heap.size w w' := by
  obtain ⟨i0, hi, hz0, hz1, hz2⟩ := info_parts Tryd.infoSiteK
  have HK1 : Hid (kn k 1 = k.2.length) := kn_one k
  have HFN : Hid (∀ j, j < 6 → kn k (2 + 2 * j) = (k.2[j]?.getD (0, 0)).1) := kn_fn k
  have HPL : Hid (∀ j, j < 6 → kn k (3 + 2 * j) = (k.2[j]?.getD (0, 0)).2) := kn_pl k
  have HBX : Hid (∀ (t : TypeId), ∀ o, o < 14 → (w.alloc (.cells #[.int .i64 (kn k 0 : Nat), .int .i64 (kn k 1 : Nat), .int .i64 (kn k 2 : Nat), .int .i64 (kn k 3 : Nat), .int .i64 (kn k 4 : Nat), .int .i64 (kn k 5 : Nat), .int .i64 (kn k 6 : Nat), .int .i64 (kn k 7 : Nat), .int .i64 (kn k 8 : Nat), .int .i64 (kn k 9 : Nat), .int .i64 (kn k 10 : Nat), .int .i64 (kn k 11 : Nat), .int .i64 (kn k 12 : Nat), .int .i64 (kn k 13 : Nat)] t)).cell? ⟨w.heap.size, o, none⟩ = some (.int .i64 (kn k o : Nat))) := fun t => box_cells k (rheap_new _ _)
  obtain ⟨n, HN⟩ : ∃ n, Hid (k.2.length = n) := ⟨_, rfl⟩
  rw [HN.out] at hk HK1
  rw [HN.out]
  unfold kval
  go_enter Tryd.func74, Tryd.ntmps74
  have hb1 := HBX.out 174
  have HB0 : Hid (Below w.heap.size w (w.alloc (.cells #[.int .i64 (kn k 0 : Nat), .int .i64 (kn k 1 : Nat), .int .i64 (kn k 2 : Nat), .int .i64 (kn k 3 : Nat), .int .i64 (kn k 4 : Nat), .int .i64 (kn k 5 : Nat), .int .i64 (kn k 6 : Nat), .int .i64 (kn k 7 : Nat), .int .i64 (kn k 8 : Nat), .int .i64 (kn k 9 : Nat), .int .i64 (kn k 10 : Nat), .int .i64 (kn k 11 : Nat), .int .i64 (kn k 12 : Nat), .int .i64 (kn k 13 : Nat)] 174))) := (Below.refl _ _).alloc (Nat.le_refl _) _
  go_wp2
  have hs1 : (w.alloc (.cells #[.int .i64 (kn k 0 : Nat), .int .i64 (kn k 1 : Nat), .int .i64 (kn k 2 : Nat), .int .i64 (kn k 3 : Nat), .int .i64 (kn k 4 : Nat), .int .i64 (kn k 5 : Nat), .int .i64 (kn k 6 : Nat), .int .i64 (kn k 7 : Nat), .int .i64 (kn k 8 : Nat), .int .i64 (kn k 9 : Nat), .int .i64 (kn k 10 : Nat), .int .i64 (kn k 11 : Nat), .int .i64 (kn k 12 : Nat), .int .i64 (kn k 13 : Nat)] 174)).heap.size = w.heap.size + 1 := by simp
  generalize w.alloc (.cells #[.int .i64 (kn k 0 : Nat), .int .i64 (kn k 1 : Nat), .int .i64 (kn k 2 : Nat), .int .i64 (kn k 3 : Nat), .int .i64 (kn k 4 : Nat), .int .i64 (kn k 5 : Nat), .int .i64 (kn k 6 : Nat), .int .i64 (kn k 7 : Nat), .int .i64 (kn k 8 : Nat), .int .i64 (kn k 9 : Nat), .int .i64 (kn k 10 : Nat), .int .i64 (kn k 11 : Nat), .int .i64 (kn k 12 : Nat), .int .i64 (kn k 13 : Nat)] 174) = W0 at *
  rw [HK1.out]
  go_loopw [3, 7] (fun v i wr => ∃ j : Nat, i = .int .i64 j ∧ j ≤ n ∧ wr.ownsRow (w.heap.size + 1) 39 2 v (k.2.take j).length (prs (k.2.take j)) ∧ Below (w.heap.size + 1) W0 wr) (fun _ i _ => n - (intOf i).toNat)
  case atStart => exact ⟨0, rfl, by omega, World.ownsRow_nil _ _ _ _, Below.refl _ _⟩
  case round =>
    obtain ⟨j, rfl, hj, hown, hB⟩ := hrel
    by_cases hlt : j < n
    · have x1 := (hB.cell (p := ⟨w.heap.size, 2 + 2 * j, none⟩) (Nat.lt_succ_self _)).trans (hb1 (2 + 2 * j) (by omega))
      have y1 := (hB.cell (p := ⟨w.heap.size, 3 + 2 * j, none⟩) (Nat.lt_succ_self _)).trans (hb1 (3 + 2 * j) (by omega))
      rw [HFN.out j (by omega)] at x1
      rw [HPL.out j (by omega)] at y1
      have HT : Hid (k.2.take (j + 1) = k.2.take j ++ [k.2[j]?.getD (0, 0)]) := by
        show k.2.take (j + 1) = _
        rw [List.take_add_one, List.getElem?_eq_getElem (by rw [HN.out]; exact hlt)]; rfl
      generalize k.2[j]?.getD (0, 0) = x at *
      have hlt2 : (k.2.take j).length ≤ 100 := by have := List.length_take_le j k.2; omega
      generalize k.2.take j = R at *
      obtain ⟨a2, cap2, hv2, -, -, -⟩ := owns_shape hown
      subst hv2
      have hbs := hB.size
      have hgw : w.heap.size < wr.heap.size := by omega
      have hwa : IntKind.wrap .i64 (2 * ((j : Nat) : Int)) = 2 * ((j : Nat) : Int) := wrap_mul2 j (by omega)
      have hwb : IntKind.wrap .i64 (2 + 2 * ((j : Nat) : Int)) = 2 + 2 * ((j : Nat) : Int) := wrap_add2 2 j (by omega) (by omega)
      have hwc : IntKind.wrap .i64 (3 + 2 * ((j : Nat) : Int)) = 3 + 2 * ((j : Nat) : Int) := wrap_add2 3 j (by omega) (by omega)
      have hta : (2 + 2 * ((j : Nat) : Int)).toNat = 2 + 2 * j := by omega
      have htb : (3 + 2 * ((j : Nat) : Int)).toNat = 3 + 2 * j := by omega
      have hia : (0 : Int) ≤ 2 + 2 * ((j : Nat) : Int) := by omega
      have hib : (0 : Int) ≤ 3 + 2 * ((j : Nat) : Int) := by omega
      have hic : 2 + 2 * ((j : Nat) : Int) < 14 := by omega
      have hid : 3 + 2 * ((j : Nat) : Int) < 14 := by omega
      clear hb1
      go_wp2
      go_region_law (refine step_append_fresh rfl (.tmp 10) (.tmp 22) 42 rfl (w.heap.size + 1) 39 i0 (.agg #[.int .i64 0, .int .i64 0]) 2 16 Tryd.undSitesK hi hz0 hz1 hz2 rfl (by decide) (.slice a2 R.length cap2) R.length (prs R) rfl (by exact hown.alloc _) ⟨wr.heap.size, 0, none⟩ 1 1 [.int .i64 (x.1 : Nat), .int .i64 (x.2 : Nat)] rfl rfl (by exact news2 _ _ _ _) (by exact ones2 _ _ _) (by unfold maxLen; omega) (by omega) (by exact Nat.le_trans (Nat.le_trans (by rw [hs1]; exact Nat.le_refl _) hbs) (by simp)) ?_; intro v' w1 hown' hgrow hfr; obtain ⟨g', cap', hv', -⟩ := owns_some hown' (by omega); subst hv')
      all_goals
        have hgrow2 : (wr.alloc (.cells #[.int .i64 (x.1 : Nat), .int .i64 (x.2 : Nat)] 39)).grownBy w1 (Value.slice a2 R.length cap2).ownBlock := ⟨hgrow.os, hgrow.tape, hgrow.output, hgrow.size, hgrow.block⟩
        have hb2 : Below (w.heap.size + 1) W0 w1 := below_app hown hgrow2 hB (by rw [hs1] at hbs; exact hbs)
        have ho1 : w1.ownsRow (w.heap.size + 1) 39 2 (.slice (some ⟨g', 0, none⟩) (R.length + 1) cap') (k.2.take (j + 1)).length (prs (k.2.take (j + 1))) := by
          rw [HT.out, prs_append]
          simpa [prs] using hown'
        have HB1 : Hid _ := hb2
        have HO1 : Hid _ := ho1
        clear hown' hgrow hgrow2 hfr hown hB hb2 ho1 x1 y1
        go_wp2
        go_roundw
        case rel => exact ⟨j + 1, by go_num, by omega, HO1.out, HB1.out⟩
        case measure => simp [intOf]; omega
    · obtain rfl : j = n := by omega
      rw [List.take_of_length_le (by rw [HN.out]; omega), HN.out] at hown
      obtain ⟨a2, cap2, hv2, -, -, -⟩ := owns_shape hown
      subst hv2
      have HB : Hid (Below w.heap.size w wr) := HB0.out.trans (hB.mono (Nat.le_succ _))
      have HO : Hid (wr.ownsRow w.heap.size 39 2 (.slice a2 j cap2) j (prs k.2)) := owns_base hown (Nat.le_succ _)
      clear hB hown
      go_wp2
      go_ret
      exact ⟨_, rfl, HO.out, HB.out⟩
end Go.Proofs.YtbmaiioecnmopaaDoor

/-
  BUCKETS, THE DOCUMENT's SIDE (package triageref): Buckets. By the verifier of the loop 'triage'.
-/
namespace Go.Proofs.YtbmaiioecnmopaaDoor
open Go.RowKit

theorem Tryd.infoBucketR : (Tryd.prog.info? 127).map (fun i => (i.zero, i.size, i.bytes)) = some (some (.agg #[.int .i64 0, .slice none 0 0, .slice none 0 0, .int .i64 0]), 4, 64) := by kernel_rfl
theorem Tryd.undBucketsR : Tryd.prog.underlying 65 = some (.slice 127) := by kernel_rfl
theorem below_grownR {B : Nat} {a w w' : World} {row : Option Nat} (h : Below B a w) (hg : w.grownBy w' row) (hB : B ≤ w.heap.size) (hr : ∀ k, row = some k → B ≤ k) : Below B a w' :=
  ⟨hg.os.trans h.os, hg.tape.trans h.tape, hg.output.trans h.output, Nat.le_trans h.size hg.size, fun k hk => (hg.block k (by omega) (by intro e; have := hr k e.symm; omega)).trans (h.block k hk)⟩
def zs (L : List ByteArray) (i : Nat) : Nat := (L[i]?.getD ByteArray.empty).size
def kys (s : ByteArray) (fu d : Nat) (L : List ByteArray) (i : Nat) : Option Bk.Ky := ky s fu d (L[i]?.getD ByteArray.empty)
/-- what Buckets answers, of either side. -/
def BkPost (tB tS : TypeId) (s : ByteArray) (fuel depth : Int) (L : List ByteArray) (w w' : World) (e : Ending) : Prop :=
  Below w.heap.size w w' ∧
  (((askP s fuel depth L).1 ≠ 0 ∧ e = .returned (.tuple #[.slice none 0 0, .int .i64 (askP s fuel depth L).1, .int .i64 (askP s fuel depth L).2])) ∨
   (AskOk s fuel depth L ∧ ∃ S M v, e = .returned (.tuple #[v, .int .i64 0, .int .i64 0]) ∧ BkM tB tS w.heap.size (Bk.bks (kys s fuel.toNat depth.toNat L) (zs L) L.length) S M v w'))
theorem bkAt_mem {l : List Bk.Bk} {i : Nat} (hi : i < l.length) : bkAt l i ∈ l := by unfold bkAt; rw [List.getElem?_eq_getElem hi]; exact List.getElem_mem hi
theorem addm_get {l : List Bk.Bk} {i j : Nat} (hi : i < l.length) : (bkAt (addm l i j) i).rep = (bkAt l i).rep := by unfold addm; rw [bkAt_set_eq _ hi]
theorem idx_eq {l : List Bk.Bk} {k : Bk.Ky} {b : Nat} (hb : b ≤ Bk.idx l k) (hl : b < l.length) (hk : (bkAt l b).key = k) : b = Bk.idx l k := by
  by_cases h : b < Bk.idx l k
  · exfalso
    have he : l[b]? = some (bkAt l b) := by unfold bkAt; rw [List.getElem?_eq_getElem hl]; rfl
    exact Bk.idx_no l k b _ h he hk
  · omega
theorem idx_lt {l : List Bk.Bk} {k : Bk.Ky} {b : Nat} (hb : b ≤ Bk.idx l k) (hl : b < l.length) (hk : (bkAt l b).key ≠ k) : b + 1 ≤ Bk.idx l k := by
  by_cases h : b = Bk.idx l k
  · exfalso
    subst h
    obtain ⟨c, hc, hck⟩ := Bk.idx_at l k hl
    apply hk
    unfold bkAt
    rw [hc]
    exact hck
  · omega
theorem news4 (w : World) (t : TypeId) (x0 x1 x2 x3 : Value) : ∀ j u, [x0, x1, x2, x3][j]? = some u → (w.alloc (.cells #[x0, x1, x2, x3] t)).cell? ((⟨w.heap.size, 0, none⟩ : Addr).add j) = some u :=
  World.news_of_block (rheap_new w (.cells #[x0, x1, x2, x3] t))
theorem ones4 (n m : Nat) (a b : Option Addr) (x y z t : Nat) : ∀ u ∈ [Value.int .i64 (n : Nat), .slice a x y, .slice b z t, .int .i64 (m : Nat)], u.oneCell' = true := by
  intro u hu
  repeat (rcases List.mem_cons.1 hu with rfl | hu; · rfl)
  cases hu
theorem ints1 (j : Nat) : ∀ u ∈ [Value.int .i64 (j : Nat)], u.oneCell' = true := by
  intro u hu
  repeat (rcases List.mem_cons.1 hu with rfl | hu; · rfl)
  cases hu
theorem two_cells {w : World} {b : Nat} {v0 v1 : Value} {t : TypeId} (h : w.heap[b]? = some (.cells #[v0, v1] t (0, 0))) : w.cell? ⟨b, 0, none⟩ = some v0 ∧ w.cell? ⟨b, 1, none⟩ = some v1 := ⟨rcell_of h rfl, rcell_of h rfl⟩
theorem add_known {l : List Bk.Bk} {k : Bk.Ky} (i : Nat) (h : Bk.idx l k < l.length) : Bk.add l k i = l := if_pos h
theorem add_new {l : List Bk.Bk} {k : Bk.Ky} (i : Nat) (h : Bk.idx l k = l.length) : Bk.add l k i = l ++ [⟨k, [], i⟩] := if_neg (by omega)
theorem put_yes {Z : Nat → Nat} {l : List Bk.Bk} {n i : Nat} (hn : n < l.length) (h : Z i < Z (bkAt l n).rep) : Bk.put Z l n i = setr (addm l n i) n i := by rw [put_parts Z l n i hn, if_pos h]
theorem put_no {Z : Nat → Nat} {l : List Bk.Bk} {n i : Nat} (hn : n < l.length) (h : ¬ Z i < Z (bkAt l n).rep) : Bk.put Z l n i = addm l n i := by rw [put_parts Z l n i hn, if_neg h]
/-- what the append to a bucket's members leaves of the buckets' row. -/
theorem BkM.mid {tB tS : TypeId} {base : Nat} {l : List Bk.Bk} {S M : Nat → Value} {w w' : World} {g cap n i : Nat} (h : BkM tB tS base l S M (.slice (some ⟨g, 0, none⟩) n cap) w) (hn : n = l.length) (h2 : tB ≠ 3) (hi : i < l.length) (hg : w.grownBy w' (M i).ownBlock) :
    w'.cell? ⟨g, i * 4 + 2, none⟩ = some (M i) ∧ w'.cell? ⟨g, i * 4 + 3, none⟩ = some (.int .i64 ((bkAt l i).rep : Nat)) ∧ (∀ o, w'.frozen? ⟨g, o, none⟩ = false) := by
  subst hn
  have hne : some g ≠ (M i).ownBlock := by
    rcases owns_kind h.row (h.mem i hi) h2 with e | e
    · cases e
    · exact e
  have hlt : g < w.heap.size := (h.row.lt g rfl).2
  refine ⟨(hg.cell_far ⟨g, i * 4 + 2, none⟩ hlt hne).trans (h.c2 rfl hi), (hg.cell_far ⟨g, i * 4 + 3, none⟩ hlt hne).trans (h.c3 rfl hi), fun o => (hg.frozen_far ⟨g, o, none⟩ hlt hne).trans (h.frz rfl o)⟩

/-- a member more, in one stroke. -/
theorem BkM.grow {tB tS : TypeId} {base : Nat} {l : List Bk.Bk} {S M : Nat → Value} {w w9 : World} {g cap n i j m g9 cap9 : Nat} {o : Obj} (h : BkM tB tS base l S M (.slice (some ⟨g, 0, none⟩) n cap) w) (hn : n = l.length) (h2 : tB ≠ 3) (h3 : tS ≠ 3) (h1 : tB ≠ tS) (hi : i < l.length) (hm : m = (bkAt l i).mem.length)
    (hown : w9.ownsRow base 3 1 (.slice (some ⟨g9, 0, none⟩) (m + 1) cap9) (m + 1) (ints (bkAt l i).mem ++ [.int .i64 (j : Nat)])) (hgr : (w.alloc o).grownBy w9 (M i).ownBlock) (hat : (M i).ownBlock = some g9 ∨ g9 = w.heap.size + 1) :
    (w9.cell? ⟨g, i * 4 + 2, none⟩ = some (M i) ∧ w9.cell? ⟨g, i * 4 + 3, none⟩ = some (.int .i64 ((bkAt l i).rep : Nat)) ∧ (∀ o, w9.frozen? ⟨g, o, none⟩ = false)) ∧
    BkM tB tS base (addm l i j) S (updF M i (.slice (some ⟨g9, 0, none⟩) (m + 1) cap9)) (.slice (some ⟨g, 0, none⟩) n cap) (w9.setCell ⟨g, i * 4 + 2, none⟩ (.slice (some ⟨g9, 0, none⟩) (m + 1) cap9)) := by
  have ha := h.alloc o
  refine ⟨ha.mid hn h2 hi hgr, ?_⟩
  subst hm
  refine ha.more hn h2 h3 h1 hi hown hgr ?_
  rcases hat with e | e
  · left; rw [e]; rfl
  · right; rw [e]; simp [Value.ownBlock]
theorem BkM.ge {tB tS : TypeId} {base : Nat} {l : List Bk.Bk} {S M : Nat → Value} {w : World} {g cap n : Nat} (h : BkM tB tS base l S M (.slice (some ⟨g, 0, none⟩) n cap) w) : base ≤ g ∧ g < w.heap.size := h.row.lt g rfl
theorem BkM.row_ge {tB tS : TypeId} {base : Nat} {l : List Bk.Bk} {S M : Nat → Value} {v : Value} {w : World} (h : BkM tB tS base l S M v w) {i : Nat} (hi : i < l.length) : ∀ k, (M i).ownBlock = some k → base ≤ k := fun k hk => ((h.mem i hi).lt k hk).1

set_option maxHeartbeats 3200000 in
set_option maxRecDepth 100000 in
theorem refBuckets_any (s : ByteArray) (fuel depth : Int) (L : List ByteArray) (v : Value) (w : World) (hI : Ins L v w) :
    Calls Tryd.prog 27 #[.string s, .int .i64 fuel, .int .i64 depth, v] w fun e w' => BkPost 127 48 s fuel depth L w w' e := by
  obtain ⟨iB, hiB, hB0, hB1, hB2⟩ := info_parts Tryd.infoBucketR
  obtain ⟨i0, hi0, hz0, hz1, hz2⟩ := info_parts Tryd.infoInt
  have hBI : 127 ≠ 3 := by decide
  have hSI : 48 ≠ 3 := by decide
  have hBS : 127 ≠ 48 := by decide
  have HI : Hid (Ins L v w) := hI
  obtain ⟨a, cap, rfl, hcap, hmax, hcell, -⟩ := hI
  unfold maxLen at hmax
  obtain ⟨len, HLEN⟩ : ∃ len, Hid (L.length = len) := ⟨_, rfl⟩
  rw [HLEN.out] at hcap hcell
  rw [HLEN.out]
  go_enter Tryd.func27, Tryd.ntmps27
  go_wp2_with fail
  refine (asked_any s fuel depth L _ _ (by rw [← HLEN.out]; exact HI.out)).mono ?_
  rintro e w1 ⟨rfl, hb1⟩
  have HB : Hid (Below w.heap.size w w1) := hb1
  by_cases h : (askP s fuel depth L).1 = 0
  · have HOK : Hid (AskOk s fuel depth L) := askP_zero h
    have ha := HOK.out.ask
    rw [ha]
    obtain ⟨fu, rfl⟩ : ∃ fu : Nat, fuel = (fu : Int) := ⟨fuel.toNat, by have := HOK.out.fu; omega⟩
    obtain ⟨d, rfl⟩ : ∃ d : Nat, depth = (d : Int) := ⟨depth.toNat, by have := HOK.out.de; omega⟩
    have hf : fu ≤ 2000 := by have := HOK.out.fu; omega
    have hd : d ≤ 6 := by have := HOK.out.de; omega
    have hc := HOK.out.chk
    have hn : len ≤ 12 := by have := HOK.out.n; have := HLEN.out; omega
    have HFIN : Hid (∀ S M vv W, BkM 127 48 w.heap.size (Bk.bks (kys s fu d L) (zs L) len) S M vv W → Below w.heap.size w W → BkPost 127 48 s fu d L w W (.returned (.tuple #[vv, .int .i64 0, .int .i64 0]))) := by
      intro S M vv W h1 h2
      refine ⟨h2, Or.inr ⟨HOK.out, S, M, vv, rfl, ?_⟩⟩
      rw [HLEN.out]
      exact h1
    have HKS : Hid (∀ b ∈ Bk.bks (kys s fu d L) (zs L) len, b.key.2.length ≤ 6) := Bk.bks_key _ _ (fun k => k.2.length ≤ 6) (fun i k hk => (ky_ok hc hd hk).1) len
    have hcell1 : 0 < len → ∃ g o, a = some ⟨g, o, none⟩ ∧ g < w.heap.size ∧ ∀ i, i < len → w.cell? ⟨g, o + i, none⟩ = some (.string (L[i]?.getD ByteArray.empty)) := hcell
    clear hcell hb1 h ha
    go_wp2
    go_loopw [13, 14] (fun lv i wr => ∃ (j : Nat) (S M : Nat → Value), i = .int .i64 j ∧ j ≤ len ∧ BkM 127 48 w.heap.size (Bk.bks (kys s fu d L) (zs L) j) S M lv wr ∧ Below w.heap.size w wr) (fun _ i _ => len - (intOf i).toNat)
    case atStart => exact ⟨0, fun _ => .slice none 0 0, fun _ => .slice none 0 0, rfl, by omega, BkM.start _ _ _ _ _ _, HB.out⟩
    case round =>
      obtain ⟨j, S, M, rfl, hj, hBk, hb⟩ := hrel
      obtain ⟨a3, cap3, hv3, hc3⟩ := hBk.shape
      subst hv3
      by_cases hlt : j < len
      · obtain ⟨g0, o0, rfl, hg0, hcc0⟩ := hcell1 (by omega)
        have HCC : Hid (∀ i, i < len → w.cell? ⟨g0, o0 + i, none⟩ = some (.string (L[i]?.getD ByteArray.empty))) := hcc0
        have hcj := (hb.cell (p := ⟨g0, o0 + j, none⟩) hg0).trans (hcc0 j hlt)
        have hsj : (L[j]?.getD ByteArray.empty).size ≤ 24 := by
          have hjl : j < L.length := by rw [HLEN.out]; exact hlt
          rw [List.getElem?_eq_getElem hjl]; exact HOK.out.sz _ (List.getElem_mem hjl)
        have HSTEP : Hid (Bk.bks (kys s fu d L) (zs L) (j + 1) = match ky s fu d (L[j]?.getD ByteArray.empty) with | none => Bk.bks (kys s fu d L) (zs L) j | some k => Bk.put (zs L) (Bk.add (Bk.bks (kys s fu d L) (zs L) j) k j) (Bk.idx (Bk.bks (kys s fu d L) (zs L) j) k) j) := rfl
        have HZJ : Hid (zs L j = (L[j]?.getD ByteArray.empty).size) := rfl
        have HCJ : Hid (w.cell? ⟨g0, o0 + j, none⟩ = some (.string (L[j]?.getD ByteArray.empty))) := hcc0 j hlt
        generalize L[j]?.getD ByteArray.empty = x at *
        have hll := Bk.bks_len (kys s fu d L) (zs L) j
        have HREP : Hid (∀ b ∈ Bk.bks (kys s fu d L) (zs L) j, b.rep < j) := Bk.bks_rep _ _ j
        have HML : Hid (∀ b ∈ Bk.bks (kys s fu d L) (zs L) j, b.mem.length ≤ j) := Bk.one_mem_len _ _ j
        have HKL : Hid (∀ b ∈ Bk.bks (kys s fu d L) (zs L) j, b.key.2.length ≤ 6) := Bk.bks_key _ _ (fun k => k.2.length ≤ 6) (fun i k hk => (ky_ok hc hd hk).1) j
        generalize Bk.bks (kys s fu d L) (zs L) j = l at *
        have HBk : Hid (BkM 127 48 w.heap.size l S M (.slice a3 l.length cap3) wr) := hBk
        have HBr : Hid (Below w.heap.size w wr) := hb
        have hst := rep_sts (s := s) (inp := x) (fuel := fu) hc hsj hf
        have HKO : Hid (∀ k, ky s fu d x = some k → k.2.length ≤ 6) := fun k hk => (ky_ok hc hd hk).1
        clear hBk hb hcc0 hcell1
        go_wp2_with fail
        refine (play_rep s x fu _ hc hsj hf).mono ?_
        rintro e w2 ⟨v28, v29, rfl, h28, h29, hb2⟩
        have HKY : Hid (ky s fu d x = kyR (rep s fu x) d) := rfl
        have HBk2 : Hid (BkM 127 48 w.heap.size l S M (.slice a3 l.length cap3) w2) := HBk.out.below hb2
        have HB2 : Hid (Below w.heap.size w w2) := HBr.out.trans (hb2.mono HBr.out.size)
        have H28 : Hid (w2.ownsRow w.heap.size 48 2 v28 (rep s fu x).sts.length (prs (rep s fu x).sts)) := owns_base h28 HBr.out.size
        obtain ⟨a4, cap4, hv4, -, -, -⟩ := owns_shape h28
        obtain ⟨a5, cap5, hv5, -, -, -⟩ := owns_shape h29
        subst hv4 hv5
        generalize rep s fu x = p at *
        clear hb2 h28 h29 hcj HBk HBr
        go_wp2_with fail
        refine (keyOf_any w.heap.size p d _ _ _ hd (by omega) (H28.out.alloc _)).mono ?_
        rintro e w3 ⟨hb3, hm3⟩
        have hb3' : Below w2.heap.size w2 w3 := below_new hb3
        have HBk3 : Hid (BkM 127 48 w.heap.size l S M (.slice a3 l.length cap3) w3) := HBk2.out.below hb3'
        have HB3 : Hid (Below w.heap.size w w3) := HB2.out.trans (hb3'.mono HB2.out.size)
        clear hb3 hb3' HBk2
        cases hq : kyR p d with
        | none =>
          rw [hq] at hm3
          dsimp only at hm3
          subst hm3
          have HS2 : Hid (Bk.bks (kys s fu d L) (zs L) (j + 1) = l) := by
            show Bk.bks (kys s fu d L) (zs L) (j + 1) = l
            rw [HSTEP.out, HKY.out, hq]
          have HR : Hid (∀ o, BkM 127 48 w.heap.size (Bk.bks (kys s fu d L) (zs L) (j + 1)) S M (.slice a3 l.length cap3) (w3.alloc o) ∧ Below w.heap.size w (w3.alloc o)) := by
            intro o
            rw [HS2.out]
            exact ⟨HBk3.out.alloc o, HB3.out.alloc HB3.out.size _⟩
          clear hq
          go_wp2
          go_roundw
          case rel => exact ⟨j + 1, S, M, by go_num, by omega, (HR.out _).1, (HR.out _).2⟩
          case measure => simp [intOf]; omega
        | some k =>
          rw [hq] at hm3
          dsimp only at hm3
          obtain ⟨kv, rfl, hKV⟩ := hm3
          obtain ⟨uk, rfl, huk⟩ := hKV
          obtain ⟨a6, cap6, hv6, -, -, -⟩ := owns_shape huk
          subst hv6
          have hk6 : k.2.length ≤ 6 := HKO.out k (HKY.out.trans hq)
          have HUK : Hid (w3.ownsRow w.heap.size 48 2 (.slice a6 k.2.length cap6) k.2.length (prs k.2)) := huk
          have HPUT : Hid (Bk.bks (kys s fu d L) (zs L) (j + 1) = Bk.put (zs L) (Bk.add l k j) (Bk.idx l k) j) := by
            show Bk.bks (kys s fu d L) (zs L) (j + 1) = _
            rw [HSTEP.out, HKY.out, hq]
          obtain ⟨q, HQ⟩ : ∃ q, Hid (Bk.idx l k = q) := ⟨_, rfl⟩
          rw [HQ.out] at HPUT
          have HQL : Hid (q ≤ l.length) := by show q ≤ l.length; rw [← HQ.out]; exact Bk.idx_le l k
          obtain ⟨W, HW⟩ : ∃ W, Hid (w3.alloc (.cells #[.int .i64 (k.1 : Nat), .slice a6 k.2.length cap6] 122) = W) := ⟨_, rfl⟩
          have hkc : W.cell? ⟨w3.heap.size, 0, none⟩ = some (.int .i64 (k.1 : Nat)) ∧ W.cell? ⟨w3.heap.size, 1, none⟩ = some (.slice a6 k.2.length cap6) := by rw [← HW.out]; exact two_cells (rheap_new _ _)
          have HWB : Hid (Below w3.heap.size w3 W) := by show Below _ _ W; rw [← HW.out]; exact (Below.refl _ _).alloc (Nat.le_refl _) _
          have hWs : w3.heap.size < W.heap.size := by rw [← HW.out]; simp
          have HBkW : Hid (BkM 127 48 w.heap.size l S M (.slice a3 l.length cap3) W) := HBk3.out.below HWB.out
          have HBW : Hid (Below w.heap.size w W) := HB3.out.trans (HWB.out.mono HB3.out.size)
          have HUKW : Hid (W.ownsRow w.heap.size 48 2 (.slice a6 k.2.length cap6) k.2.length (prs k.2)) := own_kept HUK.out HWB.out
          clear hq huk HUK HBk3
          go_wp2
          rw [HW.out]
          go_loopw [18] (fun bv wq => ∃ b : Nat, bv = .int .i64 b ∧ b ≤ q ∧ b ≤ l.length ∧ Below W.heap.size W wq) (fun bv _ => l.length - (intOf bv).toNat)
          case atStart => exact ⟨0, rfl, by omega, by omega, Below.refl _ _⟩
          case round =>
            obtain ⟨b, rfl, hbq, hbl, hbw⟩ := hrel
            obtain ⟨w4, rfl⟩ : ∃ w4, w4 = wr := ⟨_, rfl⟩
            by_cases hbn : b < l.length
            · obtain ⟨g, cap', hv, hgb, hgl, hgc⟩ := HBkW.out.form (by omega)
              cases hv
              obtain ⟨a7, cap7, hS7, -, -, -⟩ := owns_shape (HBkW.out.sts b hbn)
              have d0 := (hbw.cell (p := ⟨g, b * 4, none⟩) hgl).trans (HBkW.out.c0 rfl hbn)
              have d1 := (hbw.cell (p := ⟨g, b * 4 + 1, none⟩) hgl).trans (HBkW.out.c1 rfl hbn)
              have x0 := (hbw.cell (p := ⟨w3.heap.size, 0, none⟩) hWs).trans hkc.1
              have x1 := (hbw.cell (p := ⟨w3.heap.size, 1, none⟩) hWs).trans hkc.2
              have HSB : Hid (w4.ownsRow w.heap.size 48 2 (S b) (bkAt l b).key.2.length (prs (bkAt l b).key.2)) := own_kept (HBkW.out.sts b hbn) hbw
              rw [hS7] at d1 HSB
              have hkb6 := HKL.out _ (bkAt_mem hbn)
              have HU4 : Hid (w4.ownsRow w.heap.size 48 2 (.slice a6 k.2.length cap6) k.2.length (prs k.2)) := own_kept HUKW.out hbw
              have HBW4 : Hid (Below W.heap.size W w4) := hbw
              have HEQ : Hid ((bkAt l b).key = k → b = q) := by show _ → b = q; rw [← HQ.out]; exact idx_eq (by rw [HQ.out]; exact hbq) hbn
              have HNE : Hid ((bkAt l b).key ≠ k → b + 1 ≤ q) := by show _ → b + 1 ≤ q; rw [← HQ.out]; exact idx_lt (by rw [HQ.out]; exact hbq) hbn
              generalize (bkAt l b).key = kb at *
              have hdd : decide ((b : Int) < (l.length : Int)) = true := decide_eq_true (by omega)
              clear hbw
              by_cases hkk : kb = k
              · have HD : Hid (decide (kb = k) = true) := decide_eq_true hkk
                have HBE : Hid (b = q) := HEQ.out hkk
                clear hkk HEQ HNE
                go_wp2
                go_region_held (fun W' => W'.cell? ⟨g, b * 4, none⟩ = some (.int .i64 (kb.1 : Nat)) ∧ W'.cell? ⟨g, b * 4 + 1, none⟩ = some (.slice a7 kb.2.length cap7) ∧ W'.cell? ⟨w3.heap.size, 0, none⟩ = some (.int .i64 (k.1 : Nat)) ∧ W'.cell? ⟨w3.heap.size, 1, none⟩ = some (.slice a6 k.2.length cap6)) (first | go_keep)
                  (first | (go_at_call 52; go_loud (refine (same_any w.heap.size w.heap.size _ _ kb k _ (by omega) (by omega) ⟨_, rfl, by exact HSB.out⟩ ⟨_, rfl, by exact HU4.out⟩).mono ?_; rintro e w5 ⟨rfl, hb5⟩; rw [HD.out]; have hb5' : Below w4.heap.size w4 w5 := ⟨hb5.os, hb5.tape, hb5.output, hb5.size, hb5.block⟩; have hgl4 : g < w4.heap.size := Nat.lt_of_lt_of_le hgl HBW4.out.size; have hWs4 : w3.heap.size < w4.heap.size := Nat.lt_of_lt_of_le hWs HBW4.out.size; have z0 := (hb5'.cell (p := ⟨g, b * 4, none⟩) hgl4).trans d0; have z1 := (hb5'.cell (p := ⟨g, b * 4 + 1, none⟩) hgl4).trans d1; have z2 := (hb5'.cell (p := ⟨w3.heap.size, 0, none⟩) hWs4).trans x0; have z3 := (hb5'.cell (p := ⟨w3.heap.size, 1, none⟩) hWs4).trans x1)))
                all_goals
                  have hbe : b = q := HBE.out
                  subst hbe
                  have HB45 : Hid (Below W.heap.size W w5) := HBW4.out.trans (hb5'.mono HBW4.out.size)
                  have HB5 : Hid (Below w.heap.size w w5) := HBW.out.trans (HB45.out.mono HBW.out.size)
                  have HBk5 : Hid (BkM 127 48 w.heap.size l S M (.slice (some ⟨g, 0, none⟩) l.length cap3) w5) := HBkW.out.below HB45.out
                  have HL1 : Hid (Bk.add l k j = l) := add_known j (by rw [HQ.out]; exact hbn)
                  have heq : ((b : Int) == (l.length : Int)) = false := by rw [beq_eq_false_iff_ne]; omega
                  have HML1 : Hid (∀ b ∈ l, b.mem.length ≤ j) := HML.out
                  have HREP1 : Hid (∀ b ∈ l, b.rep ≤ j) := fun b hb => Nat.le_of_lt (HREP.out b hb)
                  clear hb5 hb5' hgl4 hWs4 z0 z1 z2 z3 d0 d1 x0 x1 HSB HU4 hdd hS7 hkb6
                  obtain ⟨n1, HN1⟩ : ∃ n1, Hid (l.length = n1) := ⟨_, rfl⟩
                  rw [HN1.out] at HBk5 heq hbn
                  rw [HN1.out]
                  obtain ⟨q, rfl⟩ : ∃ q, q = b := ⟨_, rfl⟩
                  obtain ⟨l1, rfl⟩ : ∃ l1, l1 = l := ⟨_, rfl⟩
                  obtain ⟨S1, rfl⟩ : ∃ S1, S1 = S := ⟨_, rfl⟩
                  obtain ⟨M1, rfl⟩ : ∃ M1, M1 = M := ⟨_, rfl⟩
                  have hqn : q < n1 := hbn
                  clear HKL HKS HQL HBkW hkc
                  have HB5h := HB5.out.size
                  have hq1 : q < l1.length := by rw [HN1.out]; exact hqn
                  obtain ⟨am, cm, hMq, -, -, -⟩ := owns_shape (HBk5.out.mem q hq1)
                  have d2 := HBk5.out.c2 HN1.out.symm hq1
                  rw [hMq] at d2
                  have HMEM : Hid (w5.ownsRow w.heap.size 3 1 (.slice am (bkAt l1 q).mem.length cm) (bkAt l1 q).mem.length (ints (bkAt l1 q).mem)) := by have := HBk5.out.mem q hq1; rw [hMq] at this; exact this
                  obtain ⟨m, HM⟩ : ∃ m, Hid ((bkAt l1 q).mem.length = m) := ⟨_, rfl⟩
                  have hm13 : m ≤ 13 := by have h1 := HML1.out _ (bkAt_mem hq1); have h2 := HM.out; omega
                  rw [HM.out] at d2 HMEM hMq
                  have HMQ : Hid (M1 q = .slice am m cm) := hMq
                  clear hMq
                  go_wp2_with (at_builtin; (refine wpList_append_lies _ rfl _ _ 43 rfl w.heap.size 3 i0 (.int .i64 0) 1 8 Tryd.undInts hi0 hz0 hz1 hz2 rfl (by decide) _ _ _ rfl (HMEM.out.alloc _) ⟨w5.heap.size, 0, none⟩ 1 1 [.int .i64 (j : Nat)] rfl rfl (by exact cell_one_new _ _ _) (by exact ints1 j) (by omega) (by unfold maxLen; omega) (by omega) (by simp; omega) (w5.heap.size + 1) (by simp) ?_))
                  intro g9 cap9 w9 hown9 hgr9 hat9 hlt9
                  rw [← HMQ.out] at hgr9 hat9
                  obtain ⟨⟨e2, e3, ef⟩, hBk9⟩ := HBk5.out.grow HN1.out.symm hBI hSI hBS hq1 HM.out.symm hown9 hgr9 hat9
                  have hB9 : Below w.heap.size w w9 := below_grownR (HB5.out.alloc HB5.out.size _) hgr9 (by simp; omega) (HBk5.out.row_ge hq1)
                  have HBk9 : Hid (BkM 127 48 w.heap.size (addm l1 q j) S1 (updF M1 q (.slice (some ⟨g9, 0, none⟩) (m + 1) cap9)) (.slice (some ⟨g, 0, none⟩) n1 cap3) (w9.setCell ⟨g, q * 4 + 2, none⟩ (.slice (some ⟨g9, 0, none⟩) (m + 1) cap9))) := hBk9
                  have HB9 : Hid (Below w.heap.size w (w9.setCell ⟨g, q * 4 + 2, none⟩ (.slice (some ⟨g9, 0, none⟩) (m + 1) cap9))) := hB9.setCell (p := ⟨g, q * 4 + 2, none⟩) HBk5.out.ge.1 _
                  clear hown9 hgr9 hat9 hBk9 hB9 d2
                  go_wp2
                  generalize w9.setCell ⟨g, q * 4 + 2, none⟩ (.slice (some ⟨g9, 0, none⟩) (m + 1) cap9) = W9 at *
                  clear e2 e3 ef hlt9
                  have HNA : Hid (n1 = (addm l1 q j).length) := by show n1 = _; rw [addm_len, HN1.out]
                  have hqa : q < (addm l1 q j).length := by rw [addm_len]; exact hq1
                  obtain ⟨r, HR⟩ : ∃ r, Hid ((bkAt l1 q).rep = r) := ⟨_, rfl⟩
                  have hrl : r < len := by have h1 := HREP1.out _ (bkAt_mem hq1); have h2 := HR.out; omega
                  have y1 := HBk9.out.c3 HNA.out hqa
                  rw [addm_get hq1, HR.out] at y1
                  have yf := HBk9.out.frz HNA.out
                  have y0 := (HB9.out.cell (p := ⟨g0, o0 + j, none⟩) hg0).trans HCJ.out
                  have y2 := (HB9.out.cell (p := ⟨g0, o0 + r, none⟩) hg0).trans (HCC.out r hrl)
                  have HZR : Hid (zs L r = (L[r]?.getD ByteArray.empty).size) := rfl
                  have hyz : (L[r]?.getD ByteArray.empty).size ≤ 24 := by
                    have hjl : r < L.length := by rw [HLEN.out]; exact hrl
                    rw [List.getElem?_eq_getElem hjl]; exact HOK.out.sz _ (List.getElem_mem hjl)
                  generalize L[r]?.getD ByteArray.empty = y at *
                  by_cases hzz : x.size < y.size
                  · have hzd : decide ((x.size : Int) < (y.size : Int)) = true := decide_eq_true (by omega)
                    have HFN : Hid (∀ nq, BkM 127 48 w.heap.size (Bk.bks (kys s fu d L) (zs L) (j + 1)) S1 (updF M1 q (.slice (some ⟨g9, 0, none⟩) (m + 1) cap9)) (.slice (some ⟨g, 0, none⟩) n1 cap3) ((W9.drewN nq).setCell ⟨g, q * 4 + 3, none⟩ (.int .i64 (j : Nat)))) := by
                      intro nq
                      show BkM _ _ _ (Bk.bks (kys s fu d L) (zs L) (j + 1)) _ _ _ _
                      rw [HPUT.out, HL1.out, put_yes hq1 (by rw [HR.out, HZJ.out, HZR.out]; exact hzz)]
                      exact (HBk9.out.drewN nq).rep HNA.out hBI hBS j hqa
                    have HBF : Hid (∀ nq, Below w.heap.size w ((W9.drewN nq).setCell ⟨g, q * 4 + 3, none⟩ (.int .i64 (j : Nat)))) := fun nq => (below_drewP nq HB9.out).setCell (p := ⟨g, q * 4 + 3, none⟩) HBk5.out.ge.1 _
                    go_quiet (fail)
                    go_wp2
                    go_roundw
                    case rel => exact ⟨j + 1, _, _, by go_num, by omega, HFN.out _, HBF.out _⟩
                    case measure => simp [intOf]; omega
                  · have hzd : decide ((x.size : Int) < (y.size : Int)) = false := decide_eq_false (by omega)
                    have HFN : Hid (BkM 127 48 w.heap.size (Bk.bks (kys s fu d L) (zs L) (j + 1)) S1 (updF M1 q (.slice (some ⟨g9, 0, none⟩) (m + 1) cap9)) (.slice (some ⟨g, 0, none⟩) n1 cap3) W9) := by
                      show BkM _ _ _ (Bk.bks (kys s fu d L) (zs L) (j + 1)) _ _ _ _
                      rw [HPUT.out, HL1.out, put_no hq1 (by rw [HR.out, HZJ.out, HZR.out]; exact hzz)]
                      exact HBk9.out
                    go_quiet (fail)
                    go_wp2
                    go_roundw
                    case rel => exact ⟨j + 1, _, _, by go_num, by omega, HFN.out.drewN _, below_drewP _ HB9.out⟩
                    case measure => simp [intOf]; omega
              · have HD : Hid (decide (kb = k) = false) := decide_eq_false hkk
                have hbe := HNE.out hkk
                clear hkk HEQ HNE
                go_wp2
                go_region_held (fun W' => W'.cell? ⟨g, b * 4, none⟩ = some (.int .i64 (kb.1 : Nat)) ∧ W'.cell? ⟨g, b * 4 + 1, none⟩ = some (.slice a7 kb.2.length cap7) ∧ W'.cell? ⟨w3.heap.size, 0, none⟩ = some (.int .i64 (k.1 : Nat)) ∧ W'.cell? ⟨w3.heap.size, 1, none⟩ = some (.slice a6 k.2.length cap6)) (first | go_keep)
                  (first | (go_at_call 52; go_loud (refine (same_any w.heap.size w.heap.size _ _ kb k _ (by omega) (by omega) ⟨_, rfl, by exact HSB.out⟩ ⟨_, rfl, by exact HU4.out⟩).mono ?_; rintro e w5 ⟨rfl, hb5⟩; rw [HD.out]; have hb5' : Below w4.heap.size w4 w5 := ⟨hb5.os, hb5.tape, hb5.output, hb5.size, hb5.block⟩; have hgl4 : g < w4.heap.size := Nat.lt_of_lt_of_le hgl HBW4.out.size; have hWs4 : w3.heap.size < w4.heap.size := Nat.lt_of_lt_of_le hWs HBW4.out.size; have z0 := (hb5'.cell (p := ⟨g, b * 4, none⟩) hgl4).trans d0; have z1 := (hb5'.cell (p := ⟨g, b * 4 + 1, none⟩) hgl4).trans d1; have z2 := (hb5'.cell (p := ⟨w3.heap.size, 0, none⟩) hWs4).trans x0; have z3 := (hb5'.cell (p := ⟨w3.heap.size, 1, none⟩) hWs4).trans x1)))
                all_goals
                  have HB45 : Hid (Below W.heap.size W w5) := HBW4.out.trans (hb5'.mono HBW4.out.size)
                  clear hb5 hb5' hgl4 hWs4 z0 z1 z2 z3 d0 d1 x0 x1 HSB HU4
                  go_wp2
                  go_roundw
                  case rel => exact ⟨b + 1, by go_num, by omega, by omega, by first | exact HB45.out | exact below_drewP _ HB45.out⟩
                  case measure => simp [intOf]; omega
            · obtain rfl : b = l.length := by omega
              have hqe : q = l.length := by have := HQL.out; omega
              have hdd : decide ((l.length : Int) < (l.length : Int)) = false := decide_eq_false (by omega)
              have HBk4 : Hid (BkM 127 48 w.heap.size l S M (.slice a3 l.length cap3) w4) := HBkW.out.below hbw
              have x0 := (hbw.cell (p := ⟨w3.heap.size, 0, none⟩) hWs).trans hkc.1
              have x1 := (hbw.cell (p := ⟨w3.heap.size, 1, none⟩) hWs).trans hkc.2
              have HU4 : Hid (w4.ownsRow w.heap.size 48 2 (.slice a6 k.2.length cap6) k.2.length (prs k.2)) := own_kept HUKW.out hbw
              have HB4 : Hid (Below w.heap.size w w4) := HBW.out.trans (hbw.mono HBW.out.size)
              have HL1 : Hid (Bk.add l k j = l ++ [⟨k, [], j⟩]) := add_new j (by rw [HQ.out]; exact hqe)
              have HML1 : Hid (∀ b ∈ l ++ [⟨k, [], j⟩], b.mem.length ≤ j) := by
                intro b hb
                rcases List.mem_append.1 hb with h | h
                · exact HML.out b h
                · simp at h; subst h; exact Nat.zero_le _
              have HREP1 : Hid (∀ b ∈ l ++ [⟨k, [], j⟩], b.rep ≤ j) := by
                intro b hb
                rcases List.mem_append.1 hb with h | h
                · exact Nat.le_of_lt (HREP.out b h)
                · simp at h; subst h; exact Nat.le_refl _
              obtain ⟨n, HN⟩ : ∃ n, Hid (l.length = n) := ⟨_, rfl⟩
              rw [HN.out] at hdd hqe hll
              have hown4 := HBk4.out.row
              rw [HN.out] at hown4 HBk4
              rw [HN.out]
              have hsz4 := HB4.out.size
              subst hqe
              clear hbw hbq hbl hbn HBkW hkc HQL
              go_wp2
              go_quiet (fail)
              go_wp2_with (at_builtin; (refine wpList_append_lies _ rfl _ _ 65 rfl w.heap.size 127 iB (.agg #[.int .i64 0, .slice none 0 0, .slice none 0 0, .int .i64 0]) 4 64 Tryd.undBucketsR hiB hB0 hB1 hB2 rfl (by decide) _ _ _ rfl (hown4.alloc _) ⟨w4.heap.size, 0, none⟩ 1 1 [.int .i64 (k.1 : Nat), .slice a6 k.2.length cap6, .slice none 0 0, .int .i64 (j : Nat)] rfl rfl ?c1 ?c2 (by omega) ?c3 ?c4 ?c5 (w4.heap.size + 1) ?c6 ?_))
              case c1 => exact news4 _ _ _ _ _ _
              case c2 => exact ones4 _ _ _ _ _ _ _ _
              case c3 => unfold maxLen; omega
              case c4 => omega
              case c5 => simp; omega
              case c6 => simp
              intro g cap5 w5 hown5 hgr5' hat5 hlt5
              have hgr5 : (w4.alloc (.cells #[.int .i64 (k.1 : Nat), .slice a6 k.2.length cap6, .slice none 0 0, .int .i64 (j : Nat)] 127)).grownBy w5 (Value.slice a3 q cap3).ownBlock := ⟨hgr5'.os, hgr5'.tape, hgr5'.output, hgr5'.size, hgr5'.block⟩
              clear hgr5'
              have HBk5 : Hid (BkM 127 48 w.heap.size (l ++ [⟨k, [], j⟩]) (updF S l.length (.slice a6 k.2.length cap6)) (updF M l.length (.slice none 0 0)) (.slice (some ⟨g, 0, none⟩) (q + 1) cap5) w5) := by
                refine (HBk4.out.alloc _).app hBS hBI (HU4.out.alloc _) ?_ hgr5
                rw [HN.out]
                exact hown5
              have HB5 : Hid (Below w.heap.size w w5) := below_grownR (HB4.out.alloc HB4.out.size _) hgr5 (by simp; omega) (fun k hk => (hown4.lt k hk).1)
              have HN1 : Hid ((l ++ [(⟨k, [], j⟩ : Bk.Bk)]).length = q + 1) := by show (l ++ [(⟨k, [], j⟩ : Bk.Bk)]).length = _; rw [List.length_append, HN.out]; rfl
              clear hown5 hgr5 hat5 hlt5 hown4 HBk4 x0 x1 HU4
              obtain ⟨cap3, rfl⟩ : ∃ c, c = cap5 := ⟨_, rfl⟩
              have hqn : q < q + 1 := Nat.lt_succ_self _
              generalize updF S l.length (.slice a6 k.2.length cap6) = S1 at *
              generalize updF M l.length (.slice none 0 0) = M1 at *
              generalize l ++ [(⟨k, [], j⟩ : Bk.Bk)] = l1 at *
              generalize q + 1 = n1 at *
              have HB5h := HB5.out.size
              have hq1 : q < l1.length := by rw [HN1.out]; exact hqn
              obtain ⟨am, cm, hMq, -, -, -⟩ := owns_shape (HBk5.out.mem q hq1)
              have d2 := HBk5.out.c2 HN1.out.symm hq1
              rw [hMq] at d2
              have HMEM : Hid (w5.ownsRow w.heap.size 3 1 (.slice am (bkAt l1 q).mem.length cm) (bkAt l1 q).mem.length (ints (bkAt l1 q).mem)) := by have := HBk5.out.mem q hq1; rw [hMq] at this; exact this
              obtain ⟨m, HM⟩ : ∃ m, Hid ((bkAt l1 q).mem.length = m) := ⟨_, rfl⟩
              have hm13 : m ≤ 13 := by have h1 := HML1.out _ (bkAt_mem hq1); have h2 := HM.out; omega
              rw [HM.out] at d2 HMEM hMq
              have HMQ : Hid (M1 q = .slice am m cm) := hMq
              clear hMq
              go_wp2_with (at_builtin; (refine wpList_append_lies _ rfl _ _ 43 rfl w.heap.size 3 i0 (.int .i64 0) 1 8 Tryd.undInts hi0 hz0 hz1 hz2 rfl (by decide) _ _ _ rfl (HMEM.out.alloc _) ⟨w5.heap.size, 0, none⟩ 1 1 [.int .i64 (j : Nat)] rfl rfl (by exact cell_one_new _ _ _) (by exact ints1 j) (by omega) (by unfold maxLen; omega) (by omega) (by simp; omega) (w5.heap.size + 1) (by simp) ?_))
              intro g9 cap9 w9 hown9 hgr9 hat9 hlt9
              rw [← HMQ.out] at hgr9 hat9
              obtain ⟨⟨e2, e3, ef⟩, hBk9⟩ := HBk5.out.grow HN1.out.symm hBI hSI hBS hq1 HM.out.symm hown9 hgr9 hat9
              have hB9 : Below w.heap.size w w9 := below_grownR (HB5.out.alloc HB5.out.size _) hgr9 (by simp; omega) (HBk5.out.row_ge hq1)
              have HBk9 : Hid (BkM 127 48 w.heap.size (addm l1 q j) S1 (updF M1 q (.slice (some ⟨g9, 0, none⟩) (m + 1) cap9)) (.slice (some ⟨g, 0, none⟩) n1 cap3) (w9.setCell ⟨g, q * 4 + 2, none⟩ (.slice (some ⟨g9, 0, none⟩) (m + 1) cap9))) := hBk9
              have HB9 : Hid (Below w.heap.size w (w9.setCell ⟨g, q * 4 + 2, none⟩ (.slice (some ⟨g9, 0, none⟩) (m + 1) cap9))) := hB9.setCell (p := ⟨g, q * 4 + 2, none⟩) HBk5.out.ge.1 _
              clear hown9 hgr9 hat9 hBk9 hB9 d2
              go_wp2
              generalize w9.setCell ⟨g, q * 4 + 2, none⟩ (.slice (some ⟨g9, 0, none⟩) (m + 1) cap9) = W9 at *
              clear e2 e3 ef hlt9
              have HNA : Hid (n1 = (addm l1 q j).length) := by show n1 = _; rw [addm_len, HN1.out]
              have hqa : q < (addm l1 q j).length := by rw [addm_len]; exact hq1
              obtain ⟨r, HR⟩ : ∃ r, Hid ((bkAt l1 q).rep = r) := ⟨_, rfl⟩
              have hrl : r < len := by have h1 := HREP1.out _ (bkAt_mem hq1); have h2 := HR.out; omega
              have y1 := HBk9.out.c3 HNA.out hqa
              rw [addm_get hq1, HR.out] at y1
              have yf := HBk9.out.frz HNA.out
              have y0 := (HB9.out.cell (p := ⟨g0, o0 + j, none⟩) hg0).trans HCJ.out
              have y2 := (HB9.out.cell (p := ⟨g0, o0 + r, none⟩) hg0).trans (HCC.out r hrl)
              have HZR : Hid (zs L r = (L[r]?.getD ByteArray.empty).size) := rfl
              have hyz : (L[r]?.getD ByteArray.empty).size ≤ 24 := by
                have hjl : r < L.length := by rw [HLEN.out]; exact hrl
                rw [List.getElem?_eq_getElem hjl]; exact HOK.out.sz _ (List.getElem_mem hjl)
              generalize L[r]?.getD ByteArray.empty = y at *
              by_cases hzz : x.size < y.size
              · have hzd : decide ((x.size : Int) < (y.size : Int)) = true := decide_eq_true (by omega)
                have HFN : Hid (∀ nq, BkM 127 48 w.heap.size (Bk.bks (kys s fu d L) (zs L) (j + 1)) S1 (updF M1 q (.slice (some ⟨g9, 0, none⟩) (m + 1) cap9)) (.slice (some ⟨g, 0, none⟩) n1 cap3) ((W9.drewN nq).setCell ⟨g, q * 4 + 3, none⟩ (.int .i64 (j : Nat)))) := by
                  intro nq
                  show BkM _ _ _ (Bk.bks (kys s fu d L) (zs L) (j + 1)) _ _ _ _
                  rw [HPUT.out, HL1.out, put_yes hq1 (by rw [HR.out, HZJ.out, HZR.out]; exact hzz)]
                  exact (HBk9.out.drewN nq).rep HNA.out hBI hBS j hqa
                have HBF : Hid (∀ nq, Below w.heap.size w ((W9.drewN nq).setCell ⟨g, q * 4 + 3, none⟩ (.int .i64 (j : Nat)))) := fun nq => (below_drewP nq HB9.out).setCell (p := ⟨g, q * 4 + 3, none⟩) HBk5.out.ge.1 _
                go_quiet (fail)
                go_wp2
                go_roundw
                case rel => exact ⟨j + 1, _, _, by go_num, by omega, HFN.out _, HBF.out _⟩
                case measure => simp [intOf]; omega
              · have hzd : decide ((x.size : Int) < (y.size : Int)) = false := decide_eq_false (by omega)
                have HFN : Hid (BkM 127 48 w.heap.size (Bk.bks (kys s fu d L) (zs L) (j + 1)) S1 (updF M1 q (.slice (some ⟨g9, 0, none⟩) (m + 1) cap9)) (.slice (some ⟨g, 0, none⟩) n1 cap3) W9) := by
                  show BkM _ _ _ (Bk.bks (kys s fu d L) (zs L) (j + 1)) _ _ _ _
                  rw [HPUT.out, HL1.out, put_no hq1 (by rw [HR.out, HZJ.out, HZR.out]; exact hzz)]
                  exact HBk9.out
                go_quiet (fail)
                go_wp2
                go_roundw
                case rel => exact ⟨j + 1, _, _, by go_num, by omega, HFN.out.drewN _, below_drewP _ HB9.out⟩
                case measure => simp [intOf]; omega
      · obtain rfl : j = len := by omega
        have HR := HFIN.out S M _ wr hBk hb
        clear hBk hb hcell1
        generalize Bk.bks (kys s fu d L) (zs L) j = l at *
        go_wp2
        go_ret3
        exact HR
  · have hb : ((askP s fuel depth L).1 == 0) = false := by simpa using h
    have HP : Hid (BkPost 127 48 s fuel depth L w w1 (.returned (.tuple #[.slice none 0 0, .int .i64 (askP s fuel depth L).1, .int .i64 (askP s fuel depth L).2]))) := ⟨HB.out, Or.inl ⟨h, rfl⟩⟩
    clear hb1 hcell
    generalize (askP s fuel depth L).1 = c at *
    generalize (askP s fuel depth L).2 = p at *
    go_wp2
    go_ret3
    exact HP.out
end Go.Proofs.YtbmaiioecnmopaaDoor
