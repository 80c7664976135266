/-
  BkG, SoA, SoB: THESE TEXTS, JOINED. By the verifier of the loop 'triage'.
-/
import Derived.Test.YtbmaiioecnmopaaDoorJ36
import Derived.Test.YtbmaiioecnmopaaDoorJ34
import Derived.Test.YtbmaiioecnmopaaDoorJ05
/-
  BUCKETS, THE PROGRAM's SIDE (package triage): Buckets. By the verifier of the loop 'triage'.
-/
namespace Go.Proofs.YtbmaiioecnmopaaDoor
open Go.RowKit

set_option maxHeartbeats 1600000 in
set_option maxRecDepth 100000 in
theorem codeBuckets_any (s : ByteArray) (fuel depth : Int) (L : List ByteArray) (v : Value) (w : World) (hG : Glob w) (hI : Ins L v w) :
    Calls Tryd.prog 26 #[.string s, .int .i64 fuel, .int .i64 depth, v] w fun e w' => BkPost 129 39 s fuel depth L w w' e := by
  have HG : Hid (Glob w) := hG
  have HI : Hid (Ins L v w) := hI
  obtain ⟨a, cap, hv, -⟩ := hI
  subst hv
  obtain ⟨len, HLEN⟩ : ∃ len, Hid (L.length = len) := ⟨_, rfl⟩
  rw [HLEN.out] at HI
  rw [HLEN.out]
  clear hG
  go_enter Tryd.func26, Tryd.ntmps26
  go_wp2_with fail
  refine (setUp_any s fuel depth L _ _ HG.out HI.out).mono ?_
  rintro e w1 ⟨hb1, (⟨hne, rfl⟩ | ⟨hok, bp, bs, bc, cs, rfl, hM, hcs, hcm⟩)⟩
  · have HB : Hid (Below w.heap.size w w1) := hb1
    have hb : ((askP s fuel depth L).1 == 0) = false := by simpa using hne
    have HP : Hid (∀ o, BkPost 129 39 s fuel depth L w (w1.alloc o) (.returned (.tuple #[.slice none 0 0, .int .i64 (askP s fuel depth L).1, .int .i64 (askP s fuel depth L).2]))) := fun o => ⟨HB.out.alloc HB.out.size _, Or.inl ⟨hne, rfl⟩⟩
    clear hb1
    generalize (askP s fuel depth L).1 = c at *
    generalize (askP s fuel depth L).2 = p at *
    go_wp2
    go_ret3
    exact HP.out _
  · have HB : Hid (Below w.heap.size w w1) := hb1
    have HOK : Hid (AskOk s fuel depth L) := hok
    obtain ⟨fu, rfl⟩ : ∃ fu : Nat, fuel = (fu : Int) := ⟨fuel.toNat, by have := HOK.out.fu; omega⟩
    obtain ⟨d, rfl⟩ : ∃ d : Nat, depth = (d : Int) := ⟨depth.toNat, by have := HOK.out.de; omega⟩
    have hf : fu ≤ 2000 := by have := HOK.out.fu; omega
    have hd : d ≤ 6 := by have := HOK.out.de; omega
    have hc := HOK.out.chk
    have hn := HOK.out.n
    have hsz := HOK.out.sz
    have HSM : Hid (SetM s fu d w1.heap.size (w1.alloc (.cells #[.slice (some ⟨bs, 0, none⟩) (Im.bt s 0 + 1) cs, .slice (some ⟨bc, 0, none⟩) s.size s.size, .int .i64 (fu : Nat), .int .i64 (d : Nat)] 116))) := ⟨bp, bs, bc, cs, hM.below ((Below.refl _ _).alloc (Nat.le_refl _) _), hcs, hcm, rheap_new _ _⟩
    have HP : Hid (∀ S M bv w2, BkM 129 39 w.heap.size (Bk.bks (kys s fu d L) (zs L) L.length) S M bv w2 → Below w.heap.size w w2 → BkPost 129 39 s fu d L w w2 (.returned (.tuple #[bv, .int .i64 0, .int .i64 0]))) := by
      intro S M bv w2 h1 h2
      exact ⟨h2, Or.inr ⟨HOK.out, S, M, bv, rfl, h1⟩⟩
    clear hb1 hM hok
    go_wp2_with fail
    refine (sort_any s fu d w1.heap.size L _ _ hc hf hd hn hsz HSM.out (by exact (HI.out.below HB.out).below ((Below.refl _ _).alloc (Nat.le_refl _) _))).mono ?_
    rintro e w2 ⟨S, M, bv, rfl, hbk, hb2⟩
    have HB2 : Hid (Below w.heap.size w w2) := (HB.out.alloc HB.out.size _).trans (hb2.mono (Nat.le_trans HB.out.size (by simp)))
    have HBK : Hid (BkM 129 39 w.heap.size (Bk.bks (kys s fu d L) (zs L) L.length) S M bv w2) := hbk.lower (Nat.le_trans HB.out.size (by simp))
    obtain ⟨a3, cap3, hv3, hc3⟩ := hbk.shape
    subst hv3
    clear hbk hb2 hc3
    generalize Bk.bks (kys s fu d L) (zs L) L.length = l at *
    go_wp2
    go_ret3
    exact HP.out S M _ _ HBK.out HB2.out
end Go.Proofs.YtbmaiioecnmopaaDoor

/-
  THE LAW Sorts: buckets. By the verifier of the loop 'triage'.
-/
namespace Go.Proofs.YtbmaiioecnmopaaDoor
open Go.RowKit

set_option maxHeartbeats 3200000 in
set_option maxRecDepth 100000 in
theorem buckets_any (A B : Nat) (l : List Bk.Bk) (S M S' M' : Nat → Value) (v v' : Value) (w : World) (hl : l.length ≤ 100) (hk : ∀ b ∈ l, b.key.2.length ≤ 6)
    (h1 : BkM 129 39 A l S M v w) (h2 : BkM 127 48 B l S' M' v' w) :
    Calls Tryd.prog 28 #[v, v'] w fun e w' => e = .returned (.bool true) ∧ Below w.heap.size w w' := by
  have H1 : Hid (BkM 129 39 A l S M v w) := h1
  have H2 : Hid (BkM 127 48 B l S' M' v' w) := h2
  have HK : Hid (∀ b ∈ l, b.key.2.length ≤ 6) := hk
  obtain ⟨a1, cap1, hv1, hc1⟩ := h1.shape
  obtain ⟨a2, cap2, hv2, hc2⟩ := h2.shape
  subst hv1 hv2
  obtain ⟨len, HLEN⟩ : ∃ len, Hid (l.length = len) := ⟨_, rfl⟩
  rw [HLEN.out] at H1 H2 hl
  rw [HLEN.out]
  clear h1 h2 hk hc1 hc2
  go_enter Tryd.func28, Tryd.ntmps28
  go_wp2
  go_loopw [5] (fun i wr => ∃ j : Nat, i = .int .i64 j ∧ j ≤ len ∧ Below w.heap.size w wr) (fun i _ => len - (intOf i).toNat)
  case atStart => exact ⟨0, rfl, by omega, Below.refl _ _⟩
  case round =>
    obtain ⟨j, rfl, hj, hB⟩ := hrel
    by_cases hlt : j < len
    · have hjl : j < l.length := by rw [HLEN.out]; exact hlt
      obtain ⟨g1, c1, e1, -, hg1, -⟩ := H1.out.form (by omega)
      obtain ⟨g2, c2, e2, -, hg2, -⟩ := H2.out.form (by omega)
      injection e1 with e1a e1b e1c
      injection e2 with e2a e2b e2c
      subst e1a e2a
      clear e1b e1c e2b e2c
      obtain ⟨as1, cs1, hS1, -, -, -⟩ := owns_shape (H1.out.sts j hjl)
      obtain ⟨as2, cs2, hS2, -, -, -⟩ := owns_shape (H2.out.sts j hjl)
      obtain ⟨am1, cm1, hM1, -, -, -⟩ := owns_shape (H1.out.mem j hjl)
      obtain ⟨am2, cm2, hM2, -, -, -⟩ := owns_shape (H2.out.mem j hjl)
      have d0 := (hB.cell (p := ⟨g1, j * 4, none⟩) hg1).trans (H1.out.c0 HLEN.out.symm hjl)
      have d1 := (hB.cell (p := ⟨g1, j * 4 + 1, none⟩) hg1).trans (H1.out.c1 HLEN.out.symm hjl)
      have d2 := (hB.cell (p := ⟨g1, j * 4 + 2, none⟩) hg1).trans (H1.out.c2 HLEN.out.symm hjl)
      have d3 := (hB.cell (p := ⟨g1, j * 4 + 3, none⟩) hg1).trans (H1.out.c3 HLEN.out.symm hjl)
      have f0 := (hB.cell (p := ⟨g2, j * 4, none⟩) hg2).trans (H2.out.c0 HLEN.out.symm hjl)
      have f1 := (hB.cell (p := ⟨g2, j * 4 + 1, none⟩) hg2).trans (H2.out.c1 HLEN.out.symm hjl)
      have f2 := (hB.cell (p := ⟨g2, j * 4 + 2, none⟩) hg2).trans (H2.out.c2 HLEN.out.symm hjl)
      have f3 := (hB.cell (p := ⟨g2, j * 4 + 3, none⟩) hg2).trans (H2.out.c3 HLEN.out.symm hjl)
      have HS1 : Hid (wr.ownsRow A 39 2 (S j) (bkAt l j).key.2.length (prs (bkAt l j).key.2)) := own_kept (H1.out.sts j hjl) hB
      have HS2 : Hid (wr.ownsRow B 48 2 (S' j) (bkAt l j).key.2.length (prs (bkAt l j).key.2)) := own_kept (H2.out.sts j hjl) hB
      have HM1 : Hid (wr.ownsRow A 3 1 (M j) (bkAt l j).mem.length (ints (bkAt l j).mem)) := own_kept (H1.out.mem j hjl) hB
      have HM2 : Hid (wr.ownsRow B 3 1 (M' j) (bkAt l j).mem.length (ints (bkAt l j).mem)) := own_kept (H2.out.mem j hjl) hB
      rw [hS1] at d1 HS1
      rw [hM1] at d2 HM1
      rw [hS2] at f1 HS2
      rw [hM2] at f2 HM2
      have hk6 := HK.out _ (bkAt_mem hjl)
      generalize bkAt l j = b at *
      obtain ⟨⟨k1, k2⟩, mem, rep⟩ := b
      dsimp only at *
      have HB : Hid (Below w.heap.size w wr) := hB
      have hz1 : g1 < wr.heap.size := Nat.lt_of_lt_of_le hg1 hB.size
      have hz2 : g2 < wr.heap.size := Nat.lt_of_lt_of_le hg2 hB.size
      have hdd : decide ((j : Int) < (len : Int)) = true := decide_eq_true (by omega)
      clear hB hS1 hS2 hM1 hM2
      go_wp2
      go_region_held (fun W => W.cell? ⟨g1, j * 4, none⟩ = some (.int .i64 (k1 : Nat)) ∧ W.cell? ⟨g1, j * 4 + 1, none⟩ = some (.slice as1 k2.length cs1) ∧ W.cell? ⟨g2, j * 4, none⟩ = some (.int .i64 (k1 : Nat)) ∧ W.cell? ⟨g2, j * 4 + 1, none⟩ = some (.slice as2 k2.length cs2)) (first | go_keep)
        (first
          | (go_at_call 24; go_loud (refine (sites_any A _ k2 _ (by omega) HS1.out.drew).mono ?_; rintro e w5 ⟨v5, rfl, h5, hb5⟩; have hb5' : Below wr.heap.size wr w5 := ⟨hb5.os, hb5.tape, hb5.output, hb5.size, hb5.block⟩; obtain ⟨a5, c5, hv5, -, -, -⟩ := owns_shape h5; subst hv5; have z0 := (hb5'.cell (p := ⟨g1, j * 4, none⟩) hz1).trans d0; have z1 := (hb5'.cell (p := ⟨g1, j * 4 + 1, none⟩) hz1).trans d1; have z2 := (hb5'.cell (p := ⟨g2, j * 4, none⟩) hz2).trans f0; have z3 := (hb5'.cell (p := ⟨g2, j * 4 + 1, none⟩) hz2).trans f1))
          | (go_at_call 52; go_loud (refine (same_any wr.heap.size B _ _ (k1, k2) (k1, k2) _ (by simp; omega) (by simp; omega) ⟨_, rfl, by exact h5⟩ ⟨_, rfl, by exact own_kept HS2.out hb5'⟩).mono ?_; rintro e w6 ⟨rfl, hb6⟩; rw [decide_eq_true rfl]; have hb6' : Below wr.heap.size wr w6 := hb5'.trans (hb6.mono hb5'.size); have y0 := (hb6'.cell (p := ⟨g1, j * 4, none⟩) hz1).trans d0; have y1 := (hb6'.cell (p := ⟨g1, j * 4 + 1, none⟩) hz1).trans d1; have y2 := (hb6'.cell (p := ⟨g2, j * 4, none⟩) hz2).trans f0; have y3 := (hb6'.cell (p := ⟨g2, j * 4 + 1, none⟩) hz2).trans f1)))
      all_goals
        have HB6 : Hid (Below wr.heap.size wr w6) := hb6'
        have m2 := (hb6'.cell (p := ⟨g1, j * 4 + 2, none⟩) hz1).trans d2
        have m3 := (hb6'.cell (p := ⟨g1, j * 4 + 3, none⟩) hz1).trans d3
        have n2 := (hb6'.cell (p := ⟨g2, j * 4 + 2, none⟩) hz2).trans f2
        have n3 := (hb6'.cell (p := ⟨g2, j * 4 + 3, none⟩) hz2).trans f3
        have HM3 : Hid (w6.ownsRow A 3 1 (.slice am1 mem.length cm1) mem.length (ints mem)) := own_kept HM1.out hb6'
        have HM4 : Hid (w6.ownsRow B 3 1 (.slice am2 mem.length cm2) mem.length (ints mem)) := own_kept HM2.out hb6'
        have hg6 : g1 < w6.heap.size := Nat.lt_of_lt_of_le hz1 hb6'.size
        have hg7 : g2 < w6.heap.size := Nat.lt_of_lt_of_le hz2 hb6'.size
        clear hb5 hb5' hb6 hb6' h5 z0 z1 z2 z3 y0 y1 y2 y3 d0 d1 d2 d3 f0 f1 f2 f3 HS1 HS2 HM1 HM2
        go_wp2
        go_region_held (fun W => W.cell? ⟨g1, j * 4 + 2, none⟩ = some (.slice am1 mem.length cm1) ∧ W.cell? ⟨g2, j * 4 + 2, none⟩ = some (.slice am2 mem.length cm2)) (first | go_keep)
          (first | (go_at_call 25; go_loud (refine (sameInts_any A B _ _ mem _ HM3.out.drew HM4.out.drew).mono ?_; rintro e w7 ⟨rfl, hb7⟩; have hb7' : Below w6.heap.size w6 w7 := ⟨hb7.os, hb7.tape, hb7.output, hb7.size, hb7.block⟩; have y0 := (hb7'.cell (p := ⟨g1, j * 4 + 2, none⟩) hg6).trans m2; have y1 := (hb7'.cell (p := ⟨g2, j * 4 + 2, none⟩) hg7).trans n2)))
        all_goals
          have HB7 : Hid (Below w.heap.size w w7) := (HB.out.trans (HB6.out.mono HB.out.size)).trans (hb7'.mono (Nat.le_trans HB.out.size HB6.out.size))
          have q3 := (hb7'.cell (p := ⟨g1, j * 4 + 3, none⟩) hg6).trans m3
          have r3 := (hb7'.cell (p := ⟨g2, j * 4 + 3, none⟩) hg7).trans n3
          clear hb7 hb7' y0 y1 m2 m3 n2 n3 HM3 HM4
          go_wp2
          go_quiet (fail)
          go_wp2
          go_roundw
          case rel => exact ⟨j + 1, by go_num, by omega, by first | exact HB7.out | exact below_drewP _ HB7.out⟩
          case measure => simp [intOf]; omega
    · have HB : Hid _ := hB
      clear hB
      go_wp2
      go_ret
      exact ⟨rfl, HB.out⟩
end Go.Proofs.YtbmaiioecnmopaaDoor

/-
  THE LAW Sorts: its walk. By the verifier of the loop 'triage'.
-/
namespace Go.Proofs.YtbmaiioecnmopaaDoor
open Go.RowKit

set_option maxHeartbeats 1600000 in
set_option maxRecDepth 100000 in
theorem sorts_walk (s : ByteArray) (fuel depth : Int) (L : List ByteArray) (v : Value) (w : World) (hG : Glob w) (hI : Ins L v w) :
    Calls Tryd.prog 7 #[.string s, .int .i64 fuel, .int .i64 depth, v] w fun e w' => e = .returned (.bool true) ∧ Below w.heap.size w w' := by
  have HG : Hid (Glob w) := hG
  have HI : Hid (Ins L v w) := hI
  obtain ⟨a, cap, hv, -⟩ := hI
  subst hv
  obtain ⟨len, HLEN⟩ : ∃ len, Hid (L.length = len) := ⟨_, rfl⟩
  rw [HLEN.out] at HI
  rw [HLEN.out]
  clear hG
  go_enter Tryd.func7, Tryd.ntmps7
  go_wp2_with fail
  refine (codeBuckets_any s fuel depth L _ _ HG.out HI.out).mono ?_
  rintro e w1 ⟨hb1, hp1⟩
  have HB1 : Hid (Below w.heap.size w w1) := hb1
  clear hb1
  rcases hp1 with ⟨hne, rfl⟩ | ⟨hok, S, M, v1, rfl, h1⟩
  · go_wp2_with fail
    refine (refBuckets_any s fuel depth L _ _ (HI.out.below HB1.out)).mono ?_
    rintro e w2 ⟨hb2, (⟨-, rfl⟩ | ⟨hok2, -⟩)⟩
    · have HB2 : Hid (Below w.heap.size w w2) := HB1.out.trans (hb2.mono HB1.out.size)
      clear hb2 hne
      generalize (askP s fuel depth L).1 = c at *
      generalize (askP s fuel depth L).2 = p at *
      go_wp2_with (first
        | (go_at_call 13; refine (num_any c _).mono ?_; rintro e w' ⟨rfl, rfl⟩)
        | (go_at_call 28; refine (buckets_any 0 0 [] (fun _ => .slice none 0 0) (fun _ => .slice none 0 0) (fun _ => .slice none 0 0) (fun _ => .slice none 0 0) _ _ _ (by simp) (by simp) (BkM.start _ _ _ _ _ _) (BkM.start _ _ _ _ _ _)).mono ?_; rintro e w3 ⟨rfl, hb3⟩; have HB3 : Hid (Below w.heap.size w w3) := HB2.out.trans (hb3.mono HB2.out.size); clear hb3))
      go_ret
      exact ⟨rfl, HB3.out⟩
    · exact absurd (congrArg Prod.fst hok2.ask) hne
  · have HOK : Hid (AskOk s fuel depth L) := hok
    obtain ⟨a1, cap1, hv1, -⟩ := h1.shape
    subst hv1
    have H1 : Hid (BkM 129 39 w.heap.size (Bk.bks (kys s fuel.toNat depth.toNat L) (zs L) L.length) S M (.slice a1 (Bk.bks (kys s fuel.toNat depth.toNat L) (zs L) L.length).length cap1) w1) := h1
    clear hok h1
    go_wp2_with fail
    refine (refBuckets_any s fuel depth L _ _ (HI.out.below HB1.out)).mono ?_
    rintro e w2 ⟨hb2, (⟨hne, -⟩ | ⟨-, S', M', v2, rfl, h2⟩)⟩
    · exact absurd (congrArg Prod.fst HOK.out.ask) hne
    · have HB2 : Hid (Below w.heap.size w w2) := HB1.out.trans (hb2.mono HB1.out.size)
      have h1 := H1.out.below hb2
      obtain ⟨a2, cap2, hv2, -⟩ := h2.shape
      subst hv2
      have hd6 : depth.toNat ≤ 6 := by have := HOK.out.de; omega
      have hl12 : (Bk.bks (kys s fuel.toNat depth.toNat L) (zs L) L.length).length ≤ 100 := Nat.le_trans (Bk.bks_len _ _ _) (by have := HOK.out.n; omega)
      have HK6 : Hid (∀ b ∈ Bk.bks (kys s fuel.toNat depth.toNat L) (zs L) L.length, b.key.2.length ≤ 6) := Bk.bks_key _ _ (fun k => k.2.length ≤ 6) (fun i k hk => (ky_ok HOK.out.chk hd6 hk).1) _
      generalize Bk.bks (kys s fuel.toNat depth.toNat L) (zs L) L.length = l at *
      have H2 : Hid (BkM 127 48 w1.heap.size l S' M' (.slice a2 l.length cap2) w2) := h2
      have H3 : Hid (BkM 129 39 w.heap.size l S M (.slice a1 l.length cap1) w2) := h1
      clear hb2 h1 h2 H1
      go_wp2_with (first
        | (go_at_call 13; refine (num_any 0 _).mono ?_; rintro e w' ⟨rfl, rfl⟩)
        | (go_at_call 28; refine (buckets_any _ _ l S M S' M' _ _ _ hl12 HK6.out H3.out H2.out).mono ?_; rintro e w3 ⟨rfl, hb3⟩; have HB3 : Hid (Below w.heap.size w w3) := HB2.out.trans (hb3.mono HB2.out.size); clear hb3))
      go_ret
      exact ⟨rfl, HB3.out⟩
end Go.Proofs.YtbmaiioecnmopaaDoor
