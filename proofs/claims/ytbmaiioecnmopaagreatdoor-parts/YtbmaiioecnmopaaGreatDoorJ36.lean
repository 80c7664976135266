/-
  BUCKETS, THE PROGRAM's SIDE (package triage): sort, Buckets. By the verifier of the loop 'triage'.
-/
import Derived.Test.YtbmaiioecnmopaaGreatDoorJ35
import Derived.Deep.RegionHeldLaw
import Derived.Deep.AppendLies
namespace Go.Proofs.YtbmaiioecnmopaaGreatDoor
open Go.RowKit

theorem Tryz.infoBucket : (Tryz.prog.info? 44).map (fun i => (i.zero, i.size, i.bytes)) = some (some (.agg #[.int .i64 0, .slice none 0 0, .slice none 0 0, .int .i64 0]), 4, 64) := by kernel_rfl
theorem Tryz.undBuckets : Tryz.prog.underlying 24 = some (.slice 44) := by kernel_rfl
theorem Tryz.undMapK : Tryz.prog.underlying 101 = some (.map 78 3) := by kernel_rfl
theorem Tryz.zeroIntK (w : World) : (zeroValue 3).run Tryz.prog w = .ok (.int .i64 0) w := by kernel_rfl
def kcs (k : Bk.Ky) : List Value := [.int .i64 (kn k 0 : Nat), .int .i64 (kn k 1 : Nat), .int .i64 (kn k 2 : Nat), .int .i64 (kn k 3 : Nat), .int .i64 (kn k 4 : Nat), .int .i64 (kn k 5 : Nat), .int .i64 (kn k 6 : Nat), .int .i64 (kn k 7 : Nat), .int .i64 (kn k 8 : Nat), .int .i64 (kn k 9 : Nat), .int .i64 (kn k 10 : Nat), .int .i64 (kn k 11 : Nat), .int .i64 (kn k 12 : Nat), .int .i64 (kn k 13 : Nat)]
theorem range_below {w w' : World} {b o : Nat} {cs : List Value} (h : w.rangeAt b o cs) (hb : Below w.heap.size w w') (hlt : b < w.heap.size) : w'.rangeAt b o cs := fun j v hv => (hb.cell (p := ⟨b, o + j, none⟩) hlt).trans (h j v hv)
theorem range_grown {w w' : World} {b o : Nat} {row : Option Nat} {cs : List Value} (h : w.rangeAt b o cs) (hg : w.grownBy w' row) (hlt : b < w.heap.size) (hne : some b ≠ row) : w'.rangeAt b o cs := fun j v hv => (hg.cell_far ⟨b, o + j, none⟩ hlt hne).trans (h j v hv)
theorem range_new (w : World) (k : Bk.Ky) (t : TypeId) : (w.alloc (.cells #[.int .i64 (kn k 0 : Nat), .int .i64 (kn k 1 : Nat), .int .i64 (kn k 2 : Nat), .int .i64 (kn k 3 : Nat), .int .i64 (kn k 4 : Nat), .int .i64 (kn k 5 : Nat), .int .i64 (kn k 6 : Nat), .int .i64 (kn k 7 : Nat), .int .i64 (kn k 8 : Nat), .int .i64 (kn k 9 : Nat), .int .i64 (kn k 10 : Nat), .int .i64 (kn k 11 : Nat), .int .i64 (kn k 12 : Nat), .int .i64 (kn k 13 : Nat)] t)).rangeAt w.heap.size 0 (kcs k) := by
  intro j v hv
  have := World.news_of_block (rheap_new w (.cells #[.int .i64 (kn k 0 : Nat), .int .i64 (kn k 1 : Nat), .int .i64 (kn k 2 : Nat), .int .i64 (kn k 3 : Nat), .int .i64 (kn k 4 : Nat), .int .i64 (kn k 5 : Nat), .int .i64 (kn k 6 : Nat), .int .i64 (kn k 7 : Nat), .int .i64 (kn k 8 : Nat), .int .i64 (kn k 9 : Nat), .int .i64 (kn k 10 : Nat), .int .i64 (kn k 11 : Nat), .int .i64 (kn k 12 : Nat), .int .i64 (kn k 13 : Nat)] t)) j v hv
  rw [addr_add] at this
  rwa [Nat.zero_add]
theorem range_cells {w : World} {b : Nat} (k : Bk.Ky) (h : w.rangeAt b 0 (kcs k)) : ∀ o, o < 14 → w.cell? ⟨b, o, none⟩ = some (.int .i64 (kn k o : Nat)) := by
  intro o ho
  have := h o (.int .i64 (kn k o : Nat)) (by
    obtain rfl | rfl | rfl | rfl | rfl | rfl | rfl | rfl | rfl | rfl | rfl | rfl | rfl | rfl : o = 0 ∨ o = 1 ∨ o = 2 ∨ o = 3 ∨ o = 4 ∨ o = 5 ∨ o = 6 ∨ o = 7 ∨ o = 8 ∨ o = 9 ∨ o = 10 ∨ o = 11 ∨ o = 12 ∨ o = 13 := by omega
    all_goals rfl)
  rwa [Nat.zero_add] at this
theorem one_new (w : World) (x : Value) (t : TypeId) (H : Nat) (hH : w.heap.size = H) : ∀ j u, [x][j]? = some u → (w.alloc (.cells #[x] t)).cell? ((⟨H, 0, none⟩ : Addr).add j) = some u := by
  subst hH
  exact cell_one_new w x t
theorem gby_chain {w4 w8 w5 : World} {o : Obj} {row : Option Nat} (hk : Below w4.heap.size w4 w8) (hg : (w8.alloc o).grownBy w5 row) : w4.grownBy w5 row :=
  ⟨hg.os.trans hk.os, hg.tape.trans hk.tape, hg.output.trans hk.output, Nat.le_trans hk.size (Nat.le_trans (by simp) hg.size), fun b hb hne => (hg.block b (Nat.lt_of_lt_of_le hb (Nat.le_trans hk.size (by simp))) hne).trans ((Below.heap_alloc _ _ _ (Nat.lt_of_lt_of_le hb hk.size)).trans (hk.block b hb))⟩
theorem below_grown {B : Nat} {a w w' : World} {row : Option Nat} (h : Below B a w) (hg : w.grownBy w' row) (hB : B ≤ w.heap.size) (hr : ∀ k, row = some k → B ≤ k) : Below B a w' :=
  ⟨hg.os.trans h.os, hg.tape.trans h.tape, hg.output.trans h.output, Nat.le_trans h.size hg.size, fun k hk => (hg.block k (by omega) (by intro e; have := hr k e.symm; omega)).trans (h.block k hk)⟩

section
variable {tB tS : TypeId} {base : Nat} {l : List Bk.Bk} {S M : Nat → Value} {v : Value} {w w' : World}
theorem BkM.lower (h : BkM tB tS base l S M v w) {base' : Nat} (hb : base' ≤ base) : BkM tB tS base' l S M v w :=
  ⟨owns_base h.row hb, fun i hi => owns_base (h.sts i hi) hb, fun i hi => owns_base (h.mem i hi) hb, h.apart⟩
/-- a map in a block below stands by while the buckets' blocks turn. -/
theorem BkM.lo (h : BkM tB tS base l S M v w) {b : Nat} (hb : b < base) : some b ≠ v.ownBlock := by
  intro e
  have := (h.row.lt b e.symm).1
  omega
theorem BkM.loS (h : BkM tB tS base l S M v w) {b i : Nat} (hb : b < base) (hi : i < l.length) : some b ≠ (S i).ownBlock := by
  intro e
  have := ((h.sts i hi).lt b e.symm).1
  omega
theorem BkM.loM (h : BkM tB tS base l S M v w) {b i : Nat} (hb : b < base) (hi : i < l.length) : some b ≠ (M i).ownBlock := by
  intro e
  have := ((h.mem i hi).lt b e.symm).1
  omega
end

/-- the state between two rounds of sort. -/
structure SortM (s : ByteArray) (fu d : Nat) (L : List ByteArray) (mb : Nat) (j : Nat) (bv : Value) (W wr : World) : Prop where
  all : ∃ S M D, BkM 44 34 (mb + 1) (Bk.bks (kys s fu d L) (zs L) j) S M bv wr ∧ wr.ownsMap Tryz.prog 78 (plainElem Tryz.prog 3) mb j D ∧ MapOk D (Bk.bks (kys s fu d L) (zs L) j)
  bel : Below mb W wr

set_option maxHeartbeats 3200000 in
set_option maxRecDepth 100000 in
theorem sort_any (s : ByteArray) (fu d B : Nat) (L : List ByteArray) (v : Value) (w : World) (hc : Im.chk s = (0, 0)) (hf : fu ≤ 2000) (hd : d ≤ 6) (hn : L.length ≤ 12) (hsz : ∀ x ∈ L, x.size ≤ 24) (hS : SetM s fu d B w) (hI : Ins L v w) :
    Calls Tryz.prog 22 #[.pointer (some ⟨B, 0, none⟩), v] w fun e w' => ∃ S M bv, e = .returned bv ∧ BkM 44 34 w.heap.size (Bk.bks (kys s fu d L) (zs L) L.length) S M bv w' ∧ Below w.heap.size w w' := by
  obtain ⟨iB, hiB, hB0, hB1, hB2⟩ := info_parts Tryz.infoBucket
  obtain ⟨i0, hi0, hz0, hz1, hz2⟩ := info_parts Tryz.infoInt
  have hmm := @run_makeMap Tryz.prog
  have hBI : 44 ≠ 3 := by decide
  have hSI : 34 ≠ 3 := by decide
  have hBS : 44 ≠ 34 := by decide
  have HS : Hid (SetM s fu d B w) := hS
  have HI : Hid (Ins L v w) := hI
  obtain ⟨a, cap, rfl, hcap, hmax, hcell, -⟩ := hI
  unfold maxLen at hmax
  obtain ⟨len, HLEN⟩ : ∃ len, Hid (L.length = len) := ⟨_, rfl⟩
  rw [HLEN.out] at hcap hcell hn
  rw [HLEN.out]
  have hcell1 : 0 < len → ∃ g o, a = some ⟨g, o, none⟩ ∧ g < w.heap.size ∧ ∀ i, i < len → w.cell? ⟨g, o + i, none⟩ = some (.string (L[i]?.getD ByteArray.empty)) := hcell
  clear hS hcell
  go_enter Tryz.func22, Tryz.ntmps22
  go_wp2
  go_loopw [5, 17] (fun bv iv wr => ∃ j : Nat, iv = .int .i64 j ∧ j ≤ len ∧ SortM s fu d L w.heap.size j bv w wr) (fun _ iv _ => len - (intOf iv).toNat)
  case atStart => exact ⟨0, rfl, by omega, ⟨fun _ => .slice none 0 0, fun _ => .slice none 0 0, .map [], BkM.start _ _ _ _ _ _, World.ownsMap_made _ _ _ _, MapOk.start⟩, (Below.refl _ _).alloc (Nat.le_refl _) _⟩
  case round =>
    obtain ⟨j, rfl, hj, ⟨S, M, D, hBk, hMp, hMO⟩, hb⟩ := hrel
    obtain ⟨a3, cap3, hv3, hc3⟩ := hBk.shape
    subst hv3
    by_cases hlt : j < len
    · obtain ⟨g0, o0, rfl, hg0, hcc⟩ := hcell1 (by omega)
      have hcj := (hb.cell (p := ⟨g0, o0 + j, none⟩) hg0).trans (hcc j hlt)
      have HCC : Hid (∀ i, i < len → w.cell? ⟨g0, o0 + i, none⟩ = some (.string (L[i]?.getD ByteArray.empty))) := hcc
      have hsj : (L[j]?.getD ByteArray.empty).size ≤ 24 := by
        have hjl : j < L.length := by rw [HLEN.out]; exact hlt
        rw [List.getElem?_eq_getElem hjl]; exact hsz _ (List.getElem_mem hjl)
      have HKJ : Hid (kys s fu d L j = ky s fu d (L[j]?.getD ByteArray.empty)) := rfl
      have HZJ : Hid (zs L j = (L[j]?.getD ByteArray.empty).size) := rfl
      have HSTEP : Hid (Bk.bks (kys s fu d L) (zs L) (j + 1) = match kys s fu d L j with | none => Bk.bks (kys s fu d L) (zs L) j | some k => Bk.put (zs L) (Bk.add (Bk.bks (kys s fu d L) (zs L) j) k j) (Bk.idx (Bk.bks (kys s fu d L) (zs L) j) k) j) := rfl
      generalize L[j]?.getD ByteArray.empty = x at *
      have hll := Bk.bks_len (kys s fu d L) (zs L) j
      have HREP : Hid (∀ b ∈ Bk.bks (kys s fu d L) (zs L) j, b.rep < j) := Bk.bks_rep _ _ j
      have HML : Hid (∀ b ∈ Bk.bks (kys s fu d L) (zs L) j, b.mem.length ≤ j) := Bk.one_mem_len _ _ j
      generalize Bk.bks (kys s fu d L) (zs L) j = l at *
      have HBk : Hid (BkM 44 34 (w.heap.size + 1) l S M (.slice a3 l.length cap3) wr) := hBk
      have HMp : Hid (wr.ownsMap Tryz.prog 78 (plainElem Tryz.prog 3) w.heap.size j D) := hMp
      have HMO : Hid (MapOk D l) := hMO
      have HBr : Hid (Below w.heap.size w wr) := hb
      clear hBk hMp hMO hb hcc hcell1
      go_wp2_with fail
      refine (crash_any s x fu d B _ hc hsj hf hd (HS.out.below HBr.out)).mono ?_
      rintro e w2 ⟨hb2, hm⟩
      have HBk2 : Hid (BkM 44 34 (w.heap.size + 1) l S M (.slice a3 l.length cap3) w2) := HBk.out.below hb2
      have HMp2 : Hid (w2.ownsMap Tryz.prog 78 (plainElem Tryz.prog 3) w.heap.size j D) := HMp.out.kept (row := none) ⟨hb2.os, hb2.tape, hb2.output, hb2.size, fun k hk _ => hb2.block k hk⟩ (by simp)
      have HB2 : Hid (Below w.heap.size w w2) := HBr.out.trans (hb2.mono HBr.out.size)
      cases hq : ky s fu d x with
      | none =>
        rw [hq] at hm
        dsimp only at hm
        subst hm
        have HS2 : Hid (Bk.bks (kys s fu d L) (zs L) (j + 1) = l) := by
          show Bk.bks (kys s fu d L) (zs L) (j + 1) = l
          rw [HSTEP.out, HKJ.out, hq]
        have HR : Hid (∀ o, SortM s fu d L w.heap.size (j + 1) (.slice a3 l.length cap3) w (w2.alloc o)) := by
          intro o
          refine ⟨⟨S, M, D, ?_, (HMp2.out.alloc o).mono (Nat.le_succ _), ?_⟩, HB2.out.alloc HB2.out.size _⟩
          · rw [HS2.out]; exact HBk2.out.alloc o
          · rw [HS2.out]; exact HMO.out
        clear hb2 hq hcj
        unfold kz
        go_wp2
        go_roundw
        case rel => exact ⟨j + 1, by go_num, by omega, HR.out _⟩
        case measure => simp [intOf]; omega
      | some k =>
        rw [hq] at hm
        dsimp only at hm
        subst hm
        have hKO := ky_ok hc hd hq
        have HPUT : Hid (Bk.bks (kys s fu d L) (zs L) (j + 1) = Bk.put (zs L) (Bk.add l k j) (Bk.idx l k) j) := by
          show Bk.bks (kys s fu d L) (zs L) (j + 1) = _
          rw [HSTEP.out, HKJ.out, hq]
        have hkey : keyOf Tryz.prog 78 (kval k) = some (klit k) := klit_of hKO
        obtain ⟨hhas, hat0⟩ := HMO.out k hKO
        have hkey' : keyOf Tryz.prog 78 (.agg #[.int .i64 (kn k 0 : Nat), .int .i64 (kn k 1 : Nat), .int .i64 (kn k 2 : Nat), .int .i64 (kn k 3 : Nat), .int .i64 (kn k 4 : Nat), .int .i64 (kn k 5 : Nat), .int .i64 (kn k 6 : Nat), .int .i64 (kn k 7 : Nat), .int .i64 (kn k 8 : Nat), .int .i64 (kn k 9 : Nat), .int .i64 (kn k 10 : Nat), .int .i64 (kn k 11 : Nat), .int .i64 (kn k 12 : Nat), .int .i64 (kn k 13 : Nat)]) = some (klit k) := hkey
        have HBD : Hid (BkM 44 34 (w.heap.size + 1) l S M (.slice a3 l.length cap3) (w2.alloc (.cells #[.int .i64 (kn k 0 : Nat), .int .i64 (kn k 1 : Nat), .int .i64 (kn k 2 : Nat), .int .i64 (kn k 3 : Nat), .int .i64 (kn k 4 : Nat), .int .i64 (kn k 5 : Nat), .int .i64 (kn k 6 : Nat), .int .i64 (kn k 7 : Nat), .int .i64 (kn k 8 : Nat), .int .i64 (kn k 9 : Nat), .int .i64 (kn k 10 : Nat), .int .i64 (kn k 11 : Nat), .int .i64 (kn k 12 : Nat), .int .i64 (kn k 13 : Nat)] 78))) := HBk2.out.alloc _
        have HMD : Hid ((w2.alloc (.cells #[.int .i64 (kn k 0 : Nat), .int .i64 (kn k 1 : Nat), .int .i64 (kn k 2 : Nat), .int .i64 (kn k 3 : Nat), .int .i64 (kn k 4 : Nat), .int .i64 (kn k 5 : Nat), .int .i64 (kn k 6 : Nat), .int .i64 (kn k 7 : Nat), .int .i64 (kn k 8 : Nat), .int .i64 (kn k 9 : Nat), .int .i64 (kn k 10 : Nat), .int .i64 (kn k 11 : Nat), .int .i64 (kn k 12 : Nat), .int .i64 (kn k 13 : Nat)] 78)).ownsMap Tryz.prog 78 (plainElem Tryz.prog 3) w.heap.size j D) := HMp2.out.alloc _
        have HBB : Hid (Below w.heap.size w (w2.alloc (.cells #[.int .i64 (kn k 0 : Nat), .int .i64 (kn k 1 : Nat), .int .i64 (kn k 2 : Nat), .int .i64 (kn k 3 : Nat), .int .i64 (kn k 4 : Nat), .int .i64 (kn k 5 : Nat), .int .i64 (kn k 6 : Nat), .int .i64 (kn k 7 : Nat), .int .i64 (kn k 8 : Nat), .int .i64 (kn k 9 : Nat), .int .i64 (kn k 10 : Nat), .int .i64 (kn k 11 : Nat), .int .i64 (kn k 12 : Nat), .int .i64 (kn k 13 : Nat)] 78))) := HB2.out.alloc HB2.out.size _
        have hk6 := hKO.1
        have HRG : Hid ((w2.alloc (.cells #[.int .i64 (kn k 0 : Nat), .int .i64 (kn k 1 : Nat), .int .i64 (kn k 2 : Nat), .int .i64 (kn k 3 : Nat), .int .i64 (kn k 4 : Nat), .int .i64 (kn k 5 : Nat), .int .i64 (kn k 6 : Nat), .int .i64 (kn k 7 : Nat), .int .i64 (kn k 8 : Nat), .int .i64 (kn k 9 : Nat), .int .i64 (kn k 10 : Nat), .int .i64 (kn k 11 : Nat), .int .i64 (kn k 12 : Nat), .int .i64 (kn k 13 : Nat)] 78)).rangeAt w2.heap.size 0 (kcs k)) := range_new _ _ _
        have HISM := HMp2.out.isMap
        clear hb2 hq hkey
        obtain ⟨q, HQ⟩ : ∃ q, Hid (Bk.idx l k = q) := ⟨_, rfl⟩
        rw [HQ.out] at hhas hat0 HPUT
        unfold kval
        by_cases hid : q < l.length
        · rw [decide_eq_true hid] at hhas
          have hat1 := hat0 hid
          obtain ⟨g, cap', hv, hgb, hgl, hgc⟩ := HBD.out.form (by omega)
          cases hv
          have HBk5 : Hid (BkM 44 34 (w.heap.size + 1) l S M (.slice (some ⟨g, 0, none⟩) l.length cap3) (w2.alloc (.cells #[.int .i64 (kn k 0 : Nat), .int .i64 (kn k 1 : Nat), .int .i64 (kn k 2 : Nat), .int .i64 (kn k 3 : Nat), .int .i64 (kn k 4 : Nat), .int .i64 (kn k 5 : Nat), .int .i64 (kn k 6 : Nat), .int .i64 (kn k 7 : Nat), .int .i64 (kn k 8 : Nat), .int .i64 (kn k 9 : Nat), .int .i64 (kn k 10 : Nat), .int .i64 (kn k 11 : Nat), .int .i64 (kn k 12 : Nat), .int .i64 (kn k 13 : Nat)] 78))) := HBD.out
          have HMp5 : Hid ((w2.alloc (.cells #[.int .i64 (kn k 0 : Nat), .int .i64 (kn k 1 : Nat), .int .i64 (kn k 2 : Nat), .int .i64 (kn k 3 : Nat), .int .i64 (kn k 4 : Nat), .int .i64 (kn k 5 : Nat), .int .i64 (kn k 6 : Nat), .int .i64 (kn k 7 : Nat), .int .i64 (kn k 8 : Nat), .int .i64 (kn k 9 : Nat), .int .i64 (kn k 10 : Nat), .int .i64 (kn k 11 : Nat), .int .i64 (kn k 12 : Nat), .int .i64 (kn k 13 : Nat)] 78)).ownsMap Tryz.prog 78 (plainElem Tryz.prog 3) w.heap.size (j + 1) D) := HMD.out.mono (Nat.le_succ _)
          have HMO5 : Hid (MapOk D l) := HMO.out
          have HB5 : Hid (Below w.heap.size w (w2.alloc (.cells #[.int .i64 (kn k 0 : Nat), .int .i64 (kn k 1 : Nat), .int .i64 (kn k 2 : Nat), .int .i64 (kn k 3 : Nat), .int .i64 (kn k 4 : Nat), .int .i64 (kn k 5 : Nat), .int .i64 (kn k 6 : Nat), .int .i64 (kn k 7 : Nat), .int .i64 (kn k 8 : Nat), .int .i64 (kn k 9 : Nat), .int .i64 (kn k 10 : Nat), .int .i64 (kn k 11 : Nat), .int .i64 (kn k 12 : Nat), .int .i64 (kn k 13 : Nat)] 78))) := HBB.out
          have HL1 : Hid (Bk.add l k j = l) := add_known j (by rw [HQ.out]; exact hid)
          have HML1 : Hid (∀ b ∈ l, b.mem.length ≤ j) := HML.out
          have HREP1 : Hid (∀ b ∈ l, b.rep ≤ j) := fun b hb => Nat.le_of_lt (HREP.out b hb)
          have hgw : g < w2.heap.size := HBk2.out.ge.2
          have hgw' : g ≠ w2.heap.size := by omega
          have dd2 := HBk2.out.c2 rfl hid
          obtain ⟨n1, HN1⟩ : ∃ n1, Hid (l.length = n1) := ⟨_, rfl⟩
          rw [HN1.out] at HBk5 hid
          rw [HN1.out]
          obtain ⟨l1, rfl⟩ : ∃ l1, l1 = l := ⟨_, rfl⟩
          obtain ⟨S1, rfl⟩ : ∃ S1, S1 = S := ⟨_, rfl⟩
          obtain ⟨M1, rfl⟩ : ∃ M1, M1 = M := ⟨_, rfl⟩
          obtain ⟨D1, rfl⟩ : ∃ D1, D1 = D := ⟨_, rfl⟩
          have hqn : q < n1 := hid
          clear HBD HBB HMp2 HB2 HBk2 HMO hgb hgl hgc HRG HISM hat0
          have HB5h := HB5.out.size
          have hq1 : q < l1.length := by rw [HN1.out]; exact hqn
          obtain ⟨am, cm, hMq, -, -, -⟩ := owns_shape (HBk5.out.mem q hq1)
          have d2 := HBk5.out.c2 HN1.out.symm hq1
          rw [hMq] at d2
          have HMEM : Hid ((w2.alloc (.cells #[.int .i64 (kn k 0 : Nat), .int .i64 (kn k 1 : Nat), .int .i64 (kn k 2 : Nat), .int .i64 (kn k 3 : Nat), .int .i64 (kn k 4 : Nat), .int .i64 (kn k 5 : Nat), .int .i64 (kn k 6 : Nat), .int .i64 (kn k 7 : Nat), .int .i64 (kn k 8 : Nat), .int .i64 (kn k 9 : Nat), .int .i64 (kn k 10 : Nat), .int .i64 (kn k 11 : Nat), .int .i64 (kn k 12 : Nat), .int .i64 (kn k 13 : Nat)] 78)).ownsRow (w.heap.size + 1) 3 1 (.slice am (bkAt l1 q).mem.length cm) (bkAt l1 q).mem.length (ints (bkAt l1 q).mem)) := by have := HBk5.out.mem q hq1; rw [hMq] at this; exact this
          obtain ⟨m, HM⟩ : ∃ m, Hid ((bkAt l1 q).mem.length = m) := ⟨_, rfl⟩
          have hm13 : m ≤ 13 := by have h1 := HML1.out _ (bkAt_mem hq1); have h2 := HM.out; omega
          rw [HM.out] at d2 HMEM hMq
          have HMQ : Hid (M1 q = .slice am m cm) := hMq
          have hw5 : w.heap.size < (w2.alloc (.cells #[.int .i64 (kn k 0 : Nat), .int .i64 (kn k 1 : Nat), .int .i64 (kn k 2 : Nat), .int .i64 (kn k 3 : Nat), .int .i64 (kn k 4 : Nat), .int .i64 (kn k 5 : Nat), .int .i64 (kn k 6 : Nat), .int .i64 (kn k 7 : Nat), .int .i64 (kn k 8 : Nat), .int .i64 (kn k 9 : Nat), .int .i64 (kn k 10 : Nat), .int .i64 (kn k 11 : Nat), .int .i64 (kn k 12 : Nat), .int .i64 (kn k 13 : Nat)] 78)).heap.size := HMp5.out.lt
          clear hMq
          obtain ⟨r, HR⟩ : ∃ r, Hid ((bkAt l1 q).rep = r) := ⟨_, rfl⟩
          have hrl : r < len := by have h1 := HREP1.out _ (bkAt_mem hq1); have h2 := HR.out; omega
          have hg1 : w.heap.size + 1 ≤ g := HBk5.out.ge.1
          have hgg : g ≠ g0 := by omega
          have hgg' : g0 ≠ g := by omega
          have HCC2 := HCC.out r hrl
          have HZR : Hid (zs L r = (L[r]?.getD ByteArray.empty).size) := rfl
          have hyz : (L[r]?.getD ByteArray.empty).size ≤ 24 := by
            have hjl : r < L.length := by rw [HLEN.out]; exact hrl
            rw [List.getElem?_eq_getElem hjl]; exact hsz _ (List.getElem_mem hjl)
          generalize L[r]?.getD ByteArray.empty = y at *
          have HCC2 : Hid (w.cell? ⟨g0, o0 + r, none⟩ = some (.string y)) := HCC2
          have HNA : Hid (n1 = (addm l1 q j).length) := by show n1 = _; rw [addm_len, HN1.out]
          have hqa : q < (addm l1 q j).length := by rw [addm_len]; exact hq1
          rw [HMQ.out] at dd2
          clear d2
          by_cases hzz : x.size < y.size
          · have hzd : decide ((x.size : Int) < (y.size : Int)) = true := decide_eq_true (by omega)
            go_wp2_with (first | (at_lookup; go_loud (refine wpList_lookup_own_ok_int _ rfl _ _ 101 rfl 78 3 .i64 Tryz.keyLaw Tryz.undMapK Tryz.underlying3 (Tryz.zeroIntK _) w.heap.size j D1 rfl HMD.out _ (klit k) rfl hkey' ?_; intro c hat hwc; (have hce : c = (q : Int) := by (have := hat.symm.trans hat1; simpa using this)); subst hce; clear hat hwc)) | (at_builtin; go_loud (refine wpList_append_lies _ rfl _ _ 32 rfl (w.heap.size + 1) 3 i0 (.int .i64 0) 1 8 Tryz.undInts hi0 hz0 hz1 hz2 rfl (by decide) _ _ _ rfl (HMEM.out.alloc _) ⟨(w2.heap.size + 1), 0, none⟩ 1 1 [.int .i64 (j : Nat)] rfl rfl (by exact one_new _ _ _ _ (by simp)) (by exact ints1 j) (by omega) (by unfold maxLen; omega) (by omega) (by simp at hw5 ⊢; omega) ((w2.heap.size + 1) + 1) (by simp) ?_; intro g9 cap9 w9 hown9 hgr9' hat9 hlt9; (have hgr9 : ((w2.alloc (.cells #[.int .i64 (kn k 0 : Nat), .int .i64 (kn k 1 : Nat), .int .i64 (kn k 2 : Nat), .int .i64 (kn k 3 : Nat), .int .i64 (kn k 4 : Nat), .int .i64 (kn k 5 : Nat), .int .i64 (kn k 6 : Nat), .int .i64 (kn k 7 : Nat), .int .i64 (kn k 8 : Nat), .int .i64 (kn k 9 : Nat), .int .i64 (kn k 10 : Nat), .int .i64 (kn k 11 : Nat), .int .i64 (kn k 12 : Nat), .int .i64 (kn k 13 : Nat)] 78)).alloc (.cells #[.int .i64 (j : Nat)] 3)).grownBy w9 (Value.slice am m cm).ownBlock := ⟨hgr9'.os, hgr9'.tape, hgr9'.output, hgr9'.size, hgr9'.block⟩); clear hgr9'; (have hat9' : (Value.slice am m cm).ownBlock = some g9 ∨ g9 = (w2.heap.size + 1) + 1 := hat9); clear hat9; rw [← HMQ.out] at hgr9 hat9'; obtain ⟨⟨e2, e3, ef⟩, hBk9⟩ := HBk5.out.grow HN1.out.symm hBI hSI hBS hq1 HM.out.symm hown9 hgr9 (hat9'.imp id (fun h => by simpa using h)); rw [HMQ.out] at e2; rw [HR.out] at e3; (have hB9 : Below w.heap.size w w9 := below_grown (HB5.out.alloc HB5.out.size _) hgr9 (by simp; omega) (fun k hk => Nat.le_of_succ_le (HBk5.out.row_ge hq1 k hk))); (have y2 := (hB9.cell (p := ⟨g0, o0 + r, none⟩) hg0).trans (HCC2.out)))))
            have hM9 := ((HMp5.out.alloc (.cells #[.int .i64 (j : Nat)] 3)).kept hgr9 (HBk5.out.loM (Nat.lt_succ_self _) hq1)).setCell (a := ⟨g, q * 4 + 2, none⟩) (by show w.heap.size ≠ g; omega) (.slice (some ⟨g9, 0, none⟩) (m + 1) cap9)
            have HBk9 : Hid (BkM 44 34 (w.heap.size + 1) (addm l1 q j) S1 (updF M1 q (.slice (some ⟨g9, 0, none⟩) (m + 1) cap9)) (.slice (some ⟨g, 0, none⟩) n1 cap3) (w9.setCell ⟨g, q * 4 + 2, none⟩ (.slice (some ⟨g9, 0, none⟩) (m + 1) cap9))) := hBk9
            have HB9 : Hid (Below w.heap.size w (w9.setCell ⟨g, q * 4 + 2, none⟩ (.slice (some ⟨g9, 0, none⟩) (m + 1) cap9))) := hB9.setCell (p := ⟨g, q * 4 + 2, none⟩) (by show w.heap.size ≤ g; omega) _
            have HM9 : Hid ((w9.setCell ⟨g, q * 4 + 2, none⟩ (.slice (some ⟨g9, 0, none⟩) (m + 1) cap9)).ownsMap Tryz.prog 78 (plainElem Tryz.prog 3) w.heap.size (j + 1) D1) := hM9
            clear hown9 hgr9 hat9' hBk9 hB9 hM9
            have HFN : Hid (SortM s fu d L w.heap.size (j + 1) (.slice (some ⟨g, 0, none⟩) n1 cap3) w ((w9.setCell ⟨g, q * 4 + 2, none⟩ (.slice (some ⟨g9, 0, none⟩) (m + 1) cap9)).setCell ⟨g, q * 4 + 3, none⟩ (.int .i64 (j : Nat)))) := by
              refine ⟨⟨S1, updF M1 q (.slice (some ⟨g9, 0, none⟩) (m + 1) cap9), D1, ?_, HM9.out.setCell (a := ⟨g, q * 4 + 3, none⟩) (by show w.heap.size ≠ g; omega) _, ?_⟩, HB9.out.setCell (p := ⟨g, q * 4 + 3, none⟩) (by show w.heap.size ≤ g; omega) _⟩
              · rw [HPUT.out, HL1.out, put_yes hq1 (by rw [HR.out, HZJ.out, HZR.out]; exact hzz)]
                exact HBk9.out.rep HNA.out hBI hBS j hqa
              · rw [HPUT.out, HL1.out, put_yes hq1 (by rw [HR.out, HZJ.out, HZR.out]; exact hzz)]
                exact HMO5.out.keys ((keys_setr _ _ _ hqa).trans (keys_addm _ _ _ hq1))
            go_wp2
            go_roundw
            case rel => exact ⟨j + 1, by go_num, by omega, HFN.out⟩
            case measure => simp [intOf]; omega
          · have hzd : decide ((x.size : Int) < (y.size : Int)) = false := decide_eq_false (by omega)
            go_wp2_with (first | (at_lookup; go_loud (refine wpList_lookup_own_ok_int _ rfl _ _ 101 rfl 78 3 .i64 Tryz.keyLaw Tryz.undMapK Tryz.underlying3 (Tryz.zeroIntK _) w.heap.size j D1 rfl HMD.out _ (klit k) rfl hkey' ?_; intro c hat hwc; (have hce : c = (q : Int) := by (have := hat.symm.trans hat1; simpa using this)); subst hce; clear hat hwc)) | (at_builtin; go_loud (refine wpList_append_lies _ rfl _ _ 32 rfl (w.heap.size + 1) 3 i0 (.int .i64 0) 1 8 Tryz.undInts hi0 hz0 hz1 hz2 rfl (by decide) _ _ _ rfl (HMEM.out.alloc _) ⟨(w2.heap.size + 1), 0, none⟩ 1 1 [.int .i64 (j : Nat)] rfl rfl (by exact one_new _ _ _ _ (by simp)) (by exact ints1 j) (by omega) (by unfold maxLen; omega) (by omega) (by simp at hw5 ⊢; omega) ((w2.heap.size + 1) + 1) (by simp) ?_; intro g9 cap9 w9 hown9 hgr9' hat9 hlt9; (have hgr9 : ((w2.alloc (.cells #[.int .i64 (kn k 0 : Nat), .int .i64 (kn k 1 : Nat), .int .i64 (kn k 2 : Nat), .int .i64 (kn k 3 : Nat), .int .i64 (kn k 4 : Nat), .int .i64 (kn k 5 : Nat), .int .i64 (kn k 6 : Nat), .int .i64 (kn k 7 : Nat), .int .i64 (kn k 8 : Nat), .int .i64 (kn k 9 : Nat), .int .i64 (kn k 10 : Nat), .int .i64 (kn k 11 : Nat), .int .i64 (kn k 12 : Nat), .int .i64 (kn k 13 : Nat)] 78)).alloc (.cells #[.int .i64 (j : Nat)] 3)).grownBy w9 (Value.slice am m cm).ownBlock := ⟨hgr9'.os, hgr9'.tape, hgr9'.output, hgr9'.size, hgr9'.block⟩); clear hgr9'; (have hat9' : (Value.slice am m cm).ownBlock = some g9 ∨ g9 = (w2.heap.size + 1) + 1 := hat9); clear hat9; rw [← HMQ.out] at hgr9 hat9'; obtain ⟨⟨e2, e3, ef⟩, hBk9⟩ := HBk5.out.grow HN1.out.symm hBI hSI hBS hq1 HM.out.symm hown9 hgr9 (hat9'.imp id (fun h => by simpa using h)); rw [HMQ.out] at e2; rw [HR.out] at e3; (have hB9 : Below w.heap.size w w9 := below_grown (HB5.out.alloc HB5.out.size _) hgr9 (by simp; omega) (fun k hk => Nat.le_of_succ_le (HBk5.out.row_ge hq1 k hk))); (have y2 := (hB9.cell (p := ⟨g0, o0 + r, none⟩) hg0).trans (HCC2.out)))))
            have hM9 := ((HMp5.out.alloc (.cells #[.int .i64 (j : Nat)] 3)).kept hgr9 (HBk5.out.loM (Nat.lt_succ_self _) hq1)).setCell (a := ⟨g, q * 4 + 2, none⟩) (by show w.heap.size ≠ g; omega) (.slice (some ⟨g9, 0, none⟩) (m + 1) cap9)
            have HBk9 : Hid (BkM 44 34 (w.heap.size + 1) (addm l1 q j) S1 (updF M1 q (.slice (some ⟨g9, 0, none⟩) (m + 1) cap9)) (.slice (some ⟨g, 0, none⟩) n1 cap3) (w9.setCell ⟨g, q * 4 + 2, none⟩ (.slice (some ⟨g9, 0, none⟩) (m + 1) cap9))) := hBk9
            have HB9 : Hid (Below w.heap.size w (w9.setCell ⟨g, q * 4 + 2, none⟩ (.slice (some ⟨g9, 0, none⟩) (m + 1) cap9))) := hB9.setCell (p := ⟨g, q * 4 + 2, none⟩) (by show w.heap.size ≤ g; omega) _
            have HM9 : Hid ((w9.setCell ⟨g, q * 4 + 2, none⟩ (.slice (some ⟨g9, 0, none⟩) (m + 1) cap9)).ownsMap Tryz.prog 78 (plainElem Tryz.prog 3) w.heap.size (j + 1) D1) := hM9
            clear hown9 hgr9 hat9' hBk9 hB9 hM9
            have HFN : Hid (SortM s fu d L w.heap.size (j + 1) (.slice (some ⟨g, 0, none⟩) n1 cap3) w (w9.setCell ⟨g, q * 4 + 2, none⟩ (.slice (some ⟨g9, 0, none⟩) (m + 1) cap9))) := by
              refine ⟨⟨S1, updF M1 q (.slice (some ⟨g9, 0, none⟩) (m + 1) cap9), D1, ?_, HM9.out, ?_⟩, HB9.out⟩
              · rw [HPUT.out, HL1.out, put_no hq1 (by rw [HR.out, HZJ.out, HZR.out]; exact hzz)]
                exact HBk9.out
              · rw [HPUT.out, HL1.out, put_no hq1 (by rw [HR.out, HZJ.out, HZR.out]; exact hzz)]
                exact HMO5.out.keys (keys_addm _ _ _ hq1)
            go_wp2
            go_roundw
            case rel => exact ⟨j + 1, by go_num, by omega, HFN.out⟩
            case measure => simp [intOf]; omega
        · have hql : q = l.length := by have h1 := Bk.idx_le l k; rw [HQ.out] at h1; omega
          subst hql
          rw [decide_eq_false hid] at hhas
          have hkin := kval_info k
          have hkon := kval_one k
          have huk := Tryz.underlying78
          have hlw := HMp2.out.lt
          go_wp2_with (first | (at_lookup; go_loud (refine wpList_lookup_own_ok_int _ rfl _ _ 101 rfl 78 3 .i64 Tryz.keyLaw Tryz.undMapK Tryz.underlying3 (Tryz.zeroIntK _) w.heap.size j D rfl HMD.out _ (klit k) rfl hkey' ?_; intro c hat hwc; clear hat hwc)) | (at_mapUpdate; go_loud (refine wpList_mapUpdate_own _ rfl _ _ _ 101 rfl 78 3 Tryz.keyLaw Tryz.undMapK _ w.heap.size j D rfl HMD.out (by unfold maxLen; omega) _ _ (klit k) rfl rfl hkey' (.lit (.int .i64 (l.length : Nat))) [] (plainElem_int Tryz.underlying3 (lit_wf (by omega))) ?_; intro w4 hown4 hgr4)))
          have hs4 := hgr4.size
          simp at hs4
          have hkb4 : w2.heap.size < w4.heap.size := by omega
          have HBk4 : Hid (BkM 44 34 (w.heap.size + 1) l S M (.slice a3 l.length cap3) w4) := HBD.out.kept hgr4 (Or.inr (Ne.symm (HBD.out.lo (Nat.lt_succ_self _)))) (fun i hi => Or.inr (Ne.symm (HBD.out.loS (Nat.lt_succ_self _) hi))) (fun i hi => Or.inr (Ne.symm (HBD.out.loM (Nat.lt_succ_self _) hi)))
          have HMp4 : Hid (w4.ownsMap Tryz.prog 78 (plainElem Tryz.prog 3) w.heap.size (j + 1) (D.put (klit k) (.lit (.int .i64 (l.length : Nat))))) := hown4
          have HMO4 : Hid (MapOk (D.put (klit k) (.lit (.int .i64 (l.length : Nat)))) (l ++ [⟨k, [], j⟩])) := HMO.out.app HISM hKO (by rw [HQ.out]; exact hid) j
          have HB4 : Hid (Below w.heap.size w w4) := below_grown HBB.out hgr4 HBB.out.size (by intro z hz; cases hz; exact Nat.le_refl _)
          have hr4 : w4.rangeAt w2.heap.size 0 [Value.int .i64 (kn k 0 : Nat), Value.int .i64 (kn k 1 : Nat), Value.int .i64 (kn k 2 : Nat), Value.int .i64 (kn k 3 : Nat), Value.int .i64 (kn k 4 : Nat), Value.int .i64 (kn k 5 : Nat), Value.int .i64 (kn k 6 : Nat), Value.int .i64 (kn k 7 : Nat), Value.int .i64 (kn k 8 : Nat), Value.int .i64 (kn k 9 : Nat), Value.int .i64 (kn k 10 : Nat), Value.int .i64 (kn k 11 : Nat), Value.int .i64 (kn k 12 : Nat), Value.int .i64 (kn k 13 : Nat)] := range_grown HRG.out hgr4 (by simp) (by intro e; have := Option.some.inj e; omega)
          have HR4 : Hid (w4.rangeAt w2.heap.size 0 [Value.int .i64 (kn k 0 : Nat), Value.int .i64 (kn k 1 : Nat), Value.int .i64 (kn k 2 : Nat), Value.int .i64 (kn k 3 : Nat), Value.int .i64 (kn k 4 : Nat), Value.int .i64 (kn k 5 : Nat), Value.int .i64 (kn k 6 : Nat), Value.int .i64 (kn k 7 : Nat), Value.int .i64 (kn k 8 : Nat), Value.int .i64 (kn k 9 : Nat), Value.int .i64 (kn k 10 : Nat), Value.int .i64 (kn k 11 : Nat), Value.int .i64 (kn k 12 : Nat), Value.int .i64 (kn k 13 : Nat)]) := hr4
          have HROW : Hid (w4.ownsRow (w.heap.size + 1) 44 4 (.slice a3 l.length cap3) l.length (bkCs l S M)) := HBk4.out.row
          have hrb : some w2.heap.size ≠ (Value.slice a3 l.length cap3).ownBlock := by intro e; have := (HBk2.out.row.lt w2.heap.size e.symm).2; omega
          have HL1 : Hid (Bk.add l k j = l ++ [⟨k, [], j⟩]) := add_new j HQ.out
          have HML1 : Hid (∀ b ∈ l ++ [(⟨k, [], j⟩ : Bk.Bk)], b.mem.length ≤ j) := by
            intro b hb
            rcases List.mem_append.1 hb with h | h
            · exact HML.out b h
            · simp at h; subst h; exact Nat.zero_le _
          have HREP1 : Hid (∀ b ∈ l ++ [(⟨k, [], j⟩ : Bk.Bk)], b.rep ≤ j) := by
            intro b hb
            rcases List.mem_append.1 hb with h | h
            · exact Nat.le_of_lt (HREP.out b h)
            · simp at h; subst h; exact Nat.le_refl _
          have hsz4 := HB4.out.size
          have hw4 : w.heap.size + 1 ≤ w4.heap.size := HMp4.out.lt
          clear HBD HMD HBB HMp2 HB2 HBk2 HMO HRG HISM hat0 hown4 hgr4 hs4 hhas hkey'
          have hwc4 := range_cells k HR4.out
          go_region_law
            (first
              | (go_simp; go_at_call 37; go_loud (refine (ckind_any k _).mono ?_; rintro e w7 ⟨rfl, hb7⟩; (have hk7 : Below w4.heap.size w4 w7 := by (first | exact ⟨hb7.os, hb7.tape, hb7.output, hb7.size, hb7.block⟩ | exact hk8.trans (hb7.mono hk8.size))); (have hwc7 := range_cells k (range_below HR4.out hk7 hkb4))))
              | (go_simp; go_at_call 38; go_loud (refine (csites_any k _ hk6).mono ?_; rintro e w8 ⟨u8, rfl, hu8, hb8⟩; (have hk8 : Below w4.heap.size w4 w8 := by (first | exact ⟨hb8.os, hb8.tape, hb8.output, hb8.size, hb8.block⟩ | exact hk7.trans (hb8.mono hk7.size))); (have hwc8 := range_cells k (range_below HR4.out hk8 hkb4)); (obtain ⟨a8, cap8, hv8, -, -, -⟩ := owns_shape hu8); subst hv8; (have hu8' : w8.ownsRow (w.heap.size + 1) 34 2 (.slice a8 k.2.length cap8) k.2.length (prs k.2) := owns_base hu8 (by (first | exact hw4 | (have := hk7.size; omega)))); clear hu8))
              | (refine step_append_lies _ (by rfl) (.tmp 43) (.tmp 50) 24 (by rfl) (w.heap.size + 1) 44 iB (.agg #[.int .i64 0, .slice none 0 0, .slice none 0 0, .int .i64 0]) 4 64 Tryz.undBuckets hiB hB0 hB1 hB2 (by rfl) (by decide) (.slice a3 l.length cap3) l.length (bkCs l S M) (by rfl) (by (first | exact (own_kept HROW.out hk8).alloc _ | exact (own_kept HROW.out hk7).alloc _)) _ 1 1 [.int .i64 (k.1 : Nat), .slice a8 k.2.length cap8, .slice none 0 0, .int .i64 (j : Nat)] (by rfl) (by rfl) (by exact news4 _ _ _ _ _ _) (by exact ones4 _ _ _ _ _ _ _ _) (by omega) (by unfold maxLen; omega) (by omega) (by (first | (have := hk8.size; simp; omega) | (have := hk7.size; simp; omega))) _ (by rfl) ?_; intro g cap5 w5 hown5 hgr5 hat5 hlt5; (have hbk5 : BkM 44 34 (w.heap.size + 1) (l ++ [⟨k, [], j⟩]) (updF S l.length (.slice a8 k.2.length cap8)) (updF M l.length (.slice none 0 0)) (.slice (some ⟨g, 0, none⟩) (l.length + 1) cap5) w5 := by (first | exact ((HBk4.out.below hk8).alloc _).app hBS hBI (hu8'.alloc _) hown5 hgr5 | exact ((HBk4.out.below hk7).alloc _).app hBS hBI ((own_kept hu8' hb7).alloc _) hown5 hgr5)); (have hg45 : w4.grownBy w5 (Value.slice a3 l.length cap3).ownBlock := by (first | exact gby_chain hk8 hgr5 | exact gby_chain hk7 hgr5))))
          all_goals
            have HBk5 : Hid (BkM 44 34 (w.heap.size + 1) (l ++ [⟨k, [], j⟩]) (updF S l.length (.slice a8 k.2.length cap8)) (updF M l.length (.slice none 0 0)) (.slice (some ⟨g, 0, none⟩) (l.length + 1) cap5) w5) := hbk5
            have HMp5 : Hid (w5.ownsMap Tryz.prog 78 (plainElem Tryz.prog 3) w.heap.size (j + 1) (D.put (klit k) (.lit (.int .i64 (l.length : Nat))))) := HMp4.out.kept hg45 (HBk4.out.lo (Nat.lt_succ_self _))
            have HMO5 : Hid (MapOk (D.put (klit k) (.lit (.int .i64 (l.length : Nat)))) (l ++ [⟨k, [], j⟩])) := HMO4.out
            have HB5 : Hid (Below w.heap.size w w5) := below_grown HB4.out hg45 hsz4 (fun z hz => Nat.le_of_succ_le (HROW.out.lt z hz).1)
            have HN1 : Hid ((l ++ [(⟨k, [], j⟩ : Bk.Bk)]).length = l.length + 1) := by show (l ++ [(⟨k, [], j⟩ : Bk.Bk)]).length = _; rw [List.length_append]; rfl
            clear hown5 hgr5 hat5 hlt5 hbk5 hg45 hwc4 hwc7 hwc8 hr4 hk7 hk8 hb7 hb8 hu8' hrb hkin hkon huk HR4 HROW HBk4 HMp4 HMO4
            generalize D.put (klit k) (.lit (.int .i64 (l.length : Nat))) = D1 at *
            generalize updF S l.length (.slice a8 k.2.length cap8) = S1 at *
            generalize updF M l.length (.slice none 0 0) = M1 at *
            obtain ⟨q, HQE⟩ : ∃ q, Hid (l.length = q) := ⟨_, rfl⟩
            rw [HQE.out] at HBk5 HPUT HN1
            rw [HQE.out]
            have hqn : q < q + 1 := Nat.lt_succ_self _
            obtain ⟨n1, HNN⟩ : ∃ n1, Hid (q + 1 = n1) := ⟨_, rfl⟩
            rw [HNN.out] at HBk5 HN1 hqn
            rw [HNN.out]
            obtain ⟨l1, HLL⟩ : ∃ l1, Hid (l ++ [(⟨k, [], j⟩ : Bk.Bk)] = l1) := ⟨_, rfl⟩
            rw [HLL.out] at HBk5 HN1 HMO5 HL1 HML1 HREP1
            have HB5h := HB5.out.size
            have hq1 : q < l1.length := by rw [HN1.out]; exact hqn
            obtain ⟨am, cm, hMq, -, -, -⟩ := owns_shape (HBk5.out.mem q hq1)
            have d2 := HBk5.out.c2 HN1.out.symm hq1
            rw [hMq] at d2
            have HMEM : Hid (w5.ownsRow (w.heap.size + 1) 3 1 (.slice am (bkAt l1 q).mem.length cm) (bkAt l1 q).mem.length (ints (bkAt l1 q).mem)) := by have := HBk5.out.mem q hq1; rw [hMq] at this; exact this
            obtain ⟨m, HM⟩ : ∃ m, Hid ((bkAt l1 q).mem.length = m) := ⟨_, rfl⟩
            have hm13 : m ≤ 13 := by have h1 := HML1.out _ (bkAt_mem hq1); have h2 := HM.out; omega
            rw [HM.out] at d2 HMEM hMq
            have HMQ : Hid (M1 q = .slice am m cm) := hMq
            have hw5 : w.heap.size < w5.heap.size := HMp5.out.lt
            clear hMq
            obtain ⟨r, HR⟩ : ∃ r, Hid ((bkAt l1 q).rep = r) := ⟨_, rfl⟩
            have hrl : r < len := by have h1 := HREP1.out _ (bkAt_mem hq1); have h2 := HR.out; omega
            have hg1 : w.heap.size + 1 ≤ g := HBk5.out.ge.1
            have hgg : g ≠ g0 := by omega
            have hgg' : g0 ≠ g := by omega
            have HCC2 := HCC.out r hrl
            have HZR : Hid (zs L r = (L[r]?.getD ByteArray.empty).size) := rfl
            have hyz : (L[r]?.getD ByteArray.empty).size ≤ 24 := by
              have hjl : r < L.length := by rw [HLEN.out]; exact hrl
              rw [List.getElem?_eq_getElem hjl]; exact hsz _ (List.getElem_mem hjl)
            generalize L[r]?.getD ByteArray.empty = y at *
            have HCC2 : Hid (w.cell? ⟨g0, o0 + r, none⟩ = some (.string y)) := HCC2
            have HNA : Hid (n1 = (addm l1 q j).length) := by show n1 = _; rw [addm_len, HN1.out]
            have hqa : q < (addm l1 q j).length := by rw [addm_len]; exact hq1
            by_cases hzz : x.size < y.size
            · have hzd : decide ((x.size : Int) < (y.size : Int)) = true := decide_eq_true (by omega)
              go_wp2_with (first  | (at_builtin; go_loud (refine wpList_append_lies _ rfl _ _ 32 rfl (w.heap.size + 1) 3 i0 (.int .i64 0) 1 8 Tryz.undInts hi0 hz0 hz1 hz2 rfl (by decide) _ _ _ rfl (HMEM.out.alloc _) ⟨w5.heap.size, 0, none⟩ 1 1 [.int .i64 (j : Nat)] rfl rfl (by exact one_new _ _ _ _ (by simp)) (by exact ints1 j) (by omega) (by unfold maxLen; omega) (by omega) (by simp at hw5 ⊢; omega) (w5.heap.size + 1) (by simp) ?_; intro g9 cap9 w9 hown9 hgr9' hat9 hlt9; (have hgr9 : (w5.alloc (.cells #[.int .i64 (j : Nat)] 3)).grownBy w9 (Value.slice am m cm).ownBlock := ⟨hgr9'.os, hgr9'.tape, hgr9'.output, hgr9'.size, hgr9'.block⟩); clear hgr9'; (have hat9' : (Value.slice am m cm).ownBlock = some g9 ∨ g9 = w5.heap.size + 1 := hat9); clear hat9; rw [← HMQ.out] at hgr9 hat9'; obtain ⟨⟨e2, e3, ef⟩, hBk9⟩ := HBk5.out.grow HN1.out.symm hBI hSI hBS hq1 HM.out.symm hown9 hgr9 (hat9'.imp id (fun h => by simpa using h)); rw [HMQ.out] at e2; rw [HR.out] at e3; (have hB9 : Below w.heap.size w w9 := below_grown (HB5.out.alloc HB5.out.size _) hgr9 (by simp; omega) (fun k hk => Nat.le_of_succ_le (HBk5.out.row_ge hq1 k hk))); (have y2 := (hB9.cell (p := ⟨g0, o0 + r, none⟩) hg0).trans (HCC2.out)))))
              have hM9 := ((HMp5.out.alloc (.cells #[.int .i64 (j : Nat)] 3)).kept hgr9 (HBk5.out.loM (Nat.lt_succ_self _) hq1)).setCell (a := ⟨g, q * 4 + 2, none⟩) (by show w.heap.size ≠ g; omega) (.slice (some ⟨g9, 0, none⟩) (m + 1) cap9)
              have HBk9 : Hid (BkM 44 34 (w.heap.size + 1) (addm l1 q j) S1 (updF M1 q (.slice (some ⟨g9, 0, none⟩) (m + 1) cap9)) (.slice (some ⟨g, 0, none⟩) n1 cap5) (w9.setCell ⟨g, q * 4 + 2, none⟩ (.slice (some ⟨g9, 0, none⟩) (m + 1) cap9))) := hBk9
              have HB9 : Hid (Below w.heap.size w (w9.setCell ⟨g, q * 4 + 2, none⟩ (.slice (some ⟨g9, 0, none⟩) (m + 1) cap9))) := hB9.setCell (p := ⟨g, q * 4 + 2, none⟩) (by show w.heap.size ≤ g; omega) _
              have HM9 : Hid ((w9.setCell ⟨g, q * 4 + 2, none⟩ (.slice (some ⟨g9, 0, none⟩) (m + 1) cap9)).ownsMap Tryz.prog 78 (plainElem Tryz.prog 3) w.heap.size (j + 1) D1) := hM9
              clear hown9 hgr9 hat9' hBk9 hB9 hM9
              have HFN : Hid (SortM s fu d L w.heap.size (j + 1) (.slice (some ⟨g, 0, none⟩) n1 cap5) w ((w9.setCell ⟨g, q * 4 + 2, none⟩ (.slice (some ⟨g9, 0, none⟩) (m + 1) cap9)).setCell ⟨g, q * 4 + 3, none⟩ (.int .i64 (j : Nat)))) := by
                refine ⟨⟨S1, updF M1 q (.slice (some ⟨g9, 0, none⟩) (m + 1) cap9), D1, ?_, HM9.out.setCell (a := ⟨g, q * 4 + 3, none⟩) (by show w.heap.size ≠ g; omega) _, ?_⟩, HB9.out.setCell (p := ⟨g, q * 4 + 3, none⟩) (by show w.heap.size ≤ g; omega) _⟩
                · rw [HPUT.out, HL1.out, put_yes hq1 (by rw [HR.out, HZJ.out, HZR.out]; exact hzz)]
                  exact HBk9.out.rep HNA.out hBI hBS j hqa
                · rw [HPUT.out, HL1.out, put_yes hq1 (by rw [HR.out, HZJ.out, HZR.out]; exact hzz)]
                  exact HMO5.out.keys ((keys_setr _ _ _ hqa).trans (keys_addm _ _ _ hq1))
              go_wp2
              go_roundw
              case rel => exact ⟨j + 1, by go_num, by omega, HFN.out⟩
              case measure => simp [intOf]; omega
            · have hzd : decide ((x.size : Int) < (y.size : Int)) = false := decide_eq_false (by omega)
              go_wp2_with (first  | (at_builtin; go_loud (refine wpList_append_lies _ rfl _ _ 32 rfl (w.heap.size + 1) 3 i0 (.int .i64 0) 1 8 Tryz.undInts hi0 hz0 hz1 hz2 rfl (by decide) _ _ _ rfl (HMEM.out.alloc _) ⟨w5.heap.size, 0, none⟩ 1 1 [.int .i64 (j : Nat)] rfl rfl (by exact one_new _ _ _ _ (by simp)) (by exact ints1 j) (by omega) (by unfold maxLen; omega) (by omega) (by simp at hw5 ⊢; omega) (w5.heap.size + 1) (by simp) ?_; intro g9 cap9 w9 hown9 hgr9' hat9 hlt9; (have hgr9 : (w5.alloc (.cells #[.int .i64 (j : Nat)] 3)).grownBy w9 (Value.slice am m cm).ownBlock := ⟨hgr9'.os, hgr9'.tape, hgr9'.output, hgr9'.size, hgr9'.block⟩); clear hgr9'; (have hat9' : (Value.slice am m cm).ownBlock = some g9 ∨ g9 = w5.heap.size + 1 := hat9); clear hat9; rw [← HMQ.out] at hgr9 hat9'; obtain ⟨⟨e2, e3, ef⟩, hBk9⟩ := HBk5.out.grow HN1.out.symm hBI hSI hBS hq1 HM.out.symm hown9 hgr9 (hat9'.imp id (fun h => by simpa using h)); rw [HMQ.out] at e2; rw [HR.out] at e3; (have hB9 : Below w.heap.size w w9 := below_grown (HB5.out.alloc HB5.out.size _) hgr9 (by simp; omega) (fun k hk => Nat.le_of_succ_le (HBk5.out.row_ge hq1 k hk))); (have y2 := (hB9.cell (p := ⟨g0, o0 + r, none⟩) hg0).trans (HCC2.out)))))
              have hM9 := ((HMp5.out.alloc (.cells #[.int .i64 (j : Nat)] 3)).kept hgr9 (HBk5.out.loM (Nat.lt_succ_self _) hq1)).setCell (a := ⟨g, q * 4 + 2, none⟩) (by show w.heap.size ≠ g; omega) (.slice (some ⟨g9, 0, none⟩) (m + 1) cap9)
              have HBk9 : Hid (BkM 44 34 (w.heap.size + 1) (addm l1 q j) S1 (updF M1 q (.slice (some ⟨g9, 0, none⟩) (m + 1) cap9)) (.slice (some ⟨g, 0, none⟩) n1 cap5) (w9.setCell ⟨g, q * 4 + 2, none⟩ (.slice (some ⟨g9, 0, none⟩) (m + 1) cap9))) := hBk9
              have HB9 : Hid (Below w.heap.size w (w9.setCell ⟨g, q * 4 + 2, none⟩ (.slice (some ⟨g9, 0, none⟩) (m + 1) cap9))) := hB9.setCell (p := ⟨g, q * 4 + 2, none⟩) (by show w.heap.size ≤ g; omega) _
              have HM9 : Hid ((w9.setCell ⟨g, q * 4 + 2, none⟩ (.slice (some ⟨g9, 0, none⟩) (m + 1) cap9)).ownsMap Tryz.prog 78 (plainElem Tryz.prog 3) w.heap.size (j + 1) D1) := hM9
              clear hown9 hgr9 hat9' hBk9 hB9 hM9
              have HFN : Hid (SortM s fu d L w.heap.size (j + 1) (.slice (some ⟨g, 0, none⟩) n1 cap5) w (w9.setCell ⟨g, q * 4 + 2, none⟩ (.slice (some ⟨g9, 0, none⟩) (m + 1) cap9))) := by
                refine ⟨⟨S1, updF M1 q (.slice (some ⟨g9, 0, none⟩) (m + 1) cap9), D1, ?_, HM9.out, ?_⟩, HB9.out⟩
                · rw [HPUT.out, HL1.out, put_no hq1 (by rw [HR.out, HZJ.out, HZR.out]; exact hzz)]
                  exact HBk9.out
                · rw [HPUT.out, HL1.out, put_no hq1 (by rw [HR.out, HZJ.out, HZR.out]; exact hzz)]
                  exact HMO5.out.keys (keys_addm _ _ _ hq1)
              go_wp2
              go_roundw
              case rel => exact ⟨j + 1, by go_num, by omega, HFN.out⟩
              case measure => simp [intOf]; omega
    · obtain rfl : j = len := by omega
      obtain ⟨l, HL⟩ : ∃ l, Hid (Bk.bks (kys s fu d L) (zs L) j = l) := ⟨_, rfl⟩
      rw [HL.out] at hBk
      rw [HL.out]
      have HR : Hid (BkM 44 34 w.heap.size l S M (.slice a3 l.length cap3) wr) := hBk.lower (Nat.le_succ _)
      have HBr : Hid (Below w.heap.size w wr) := hb
      clear hBk hMp hMO hb
      go_wp2
      go_ret
      exact ⟨S, M, _, rfl, by rw [HL.out]; exact HR.out, HBr.out⟩
end Go.Proofs.YtbmaiioecnmopaaGreatDoor
