/-
  BuT, BunT, Packs, PureV, BuX, BuY: THESE TEXTS, JOINED. By the verifier of the loop 'triage'.
-/
import Derived.Test.YtbmaiioecnmopaaDoorJ35
import Derived.Deep.RegionHeld3
import Derived.Test.YtbmaiioecnmopaaDoorJ05
import Derived.Test.YtbmaiioecnmopaaDoorJ33
import Derived.Deep.SlicePairs
import Derived.Carry
import Derived.SizedLaws
import Derived.Test.YtbmaiioecnmopaaDoorTie
import Derived.Test.YtbmaiioecnmopaaDoorCards
import Derived.SevenTiedAt
import Derived.Test.YtbmaiioecnmopaaDoorJ32
/-
  THE LAW Packs: its walk. By the verifier of the loop 'triage'.
-/
namespace Go.Proofs.YtbmaiioecnmopaaDoor
open Go.RowKit

theorem okN_of {im inp : ByteArray} {fu de kd : Int} {sts : List (Int × Int)} {eds : List Int} (h : okB im inp fu de kd sts eds = true) : okN (bnOf im inp fu de kd sts eds) = true := by
  obtain ⟨⟨h0, h1, h2, h3, h4, h5, h6, h7, h8⟩, h9, h10⟩ := okB_parts h
  unfold okN bnOf
  rw [ofL_lst, ofL_lst, up_dnP sts h9, up_dnI eds h10]
  rw [show ((fu.toNat : Nat) : Int) = fu from by omega, show ((de.toNat : Nat) : Int) = de from by omega, show ((kd.toNat : Nat) : Int) = kd from by omega]
  exact h
theorem text_len (P : Bu.Bn) : (Bu.text P).length = 18 + P.im.length + P.inp.length + 4 * P.sts.length + 2 * P.eds.length := by
  unfold Bu.text Bu.sealed Bu.body Bu.txt
  simp only [List.length_append, Bu.two_len, Bu.flat_len, Bu.twos_len]
  have h4 : ∀ n, (Bu.four n).length = 4 := fun _ => rfl
  rw [h4]
  omega

set_option maxHeartbeats 3200000 in
set_option maxRecDepth 100000 in
theorem packs_walk (im inp : ByteArray) (fu de kd : Int) (sv ev : Value) (sts : List (Int × Int)) (eds : List Int) (w : World) (hG : Glob w) (hm : inp.size ≤ maxLen) (hb1 : sts.length ≤ 8796093022000) (hb2 : eds.length ≤ 17592186043904) (hS : Rd w sts.length sv (prI sts)) (hE : Rd w eds.length ev (inI eds)) :
    Calls Tryd.prog 8 #[bunV im inp fu de kd sv ev] w fun e w' => e = .returned (.bool true) ∧ Below w.heap.size w w' := by
  have HG : Hid (Glob w) := hG
  have HBV : Hid (∀ (a b : ByteArray) (x y z : Int) (p q : Value), bunV a b x y z p q = .agg #[.string a, .int .i64 x, .int .i64 y, .string b, .int .i64 z, p, q]) := fun _ _ _ _ _ _ _ => rfl
  have HS : Hid (Rd w sts.length sv (prI sts)) := hS
  have HE : Hid (Rd w eds.length ev (inI eds)) := hE
  obtain ⟨qs, cs, hvs, -, -, -⟩ := hS
  obtain ⟨qe, ce, hve, -, -, -⟩ := hE
  subst hvs hve
  obtain ⟨ns, HNS⟩ := nm sts.length
  obtain ⟨ne, HNE⟩ := nm eds.length
  rw [HNS.out] at HS
  rw [HNE.out] at HE
  rw [HNS.out, HNE.out, HBV.out]
  clear hG
  go_enter Tryd.func8, Tryd.ntmps8
  go_wp2_with fail
  refine (plain_any im inp fu de kd _ _ sts eds _ hb1 hb2 (by rw [HNS.out]; exact HS.out.alloc _) (by rw [HNE.out]; exact HE.out.alloc _)).mono ?_
  rintro e w1 ⟨sv1, ev1, rfl, h1, h2, hbA⟩
  obtain ⟨q1, c1, hv1, -⟩ := owns_shape h1
  obtain ⟨q2, c2, hv2, -⟩ := owns_shape h2
  subst hv1 hv2
  have HKB : Hid (w1.heap[w.heap.size]? = some (.cells #[.string im, .int .i64 fu, .int .i64 de, .string inp, .int .i64 kd, .slice qs ns cs, .slice qe ne ce] 71)) := (hbA.block w.heap.size (by simp)).trans (hp_new _ _)
  have HB1 : Hid (Below w.heap.size w w1) := ((Below.refl _ _).alloc (Nat.le_refl _) _).trans (hbA.mono (by simp))
  have hs1 : w.heap.size < w1.heap.size := by have := hbA.size; simp at this; omega
  have HS1 : Hid (Rd w1 ns (.slice q1 ns c1) (prI sts)) := by have := rd_owns h1; rw [HNS.out] at this; exact this
  have HE1 : Hid (Rd w1 ne (.slice q2 ne c2) (inI eds)) := by have := rd_owns h2; rw [HNE.out] at this; exact this
  rw [HNS.out, HNE.out, HBV.out]
  clear h1 h2 hbA
  -- the world with what was read
  obtain ⟨x0, x1, x2, x3, x4, x5, x6⟩ := z7_of HKB.out
  go_wp2_with fail
  refine (pack_any im inp fu de kd _ _ sts eds _ ((HG.out.below HB1.out).below ((Below.refl _ _).alloc (Nat.le_refl _) _)) hm (by rw [HNS.out]; exact (HS.out.below HB1.out).alloc _) (by rw [HNE.out]; exact (HE.out.below HB1.out).alloc _)).mono ?_
  rintro e w2 ⟨hbB, hp2⟩
  have hb12 : Below w1.heap.size w1 w2 := ((Below.refl _ _).alloc (Nat.le_refl _) _).trans (hbB.mono (by simp))
  have HK2 : Hid (w2.heap[w.heap.size]? = some (.cells #[.string im, .int .i64 fu, .int .i64 de, .string inp, .int .i64 kd, .slice qs ns cs, .slice qe ne ce] 71)) := (hb12.block _ hs1).trans HKB.out
  have HW2 : Hid (w2.heap[w1.heap.size]? = some (.cells #[.string im, .int .i64 fu, .int .i64 de, .string inp, .int .i64 kd, .slice q1 ns c1, .slice q2 ne c2] 73)) := (hbB.block w1.heap.size (by simp)).trans (hp_new _ _)
  have HB2 : Hid (Below w.heap.size w w2) := HB1.out.trans (hb12.mono HB1.out.size)
  have hs2 : w1.heap.size < w2.heap.size := by have := hbB.size; simp at this; omega
  have HS2 : Hid (Rd w2 ns (.slice q1 ns c1) (prI sts)) := HS1.out.below hb12
  have HE2 : Hid (Rd w2 ne (.slice q2 ne c2) (inI eds)) := HE1.out.below hb12
  clear hbB hb12 x0 x1 x2 x3 x4 x5 x6
  obtain ⟨q, HQ⟩ := nm (okB im inp fu de kd sts eds)
  obtain ⟨T, HT⟩ := nm (ofL (Bu.text (bnOf im inp fu de kd sts eds)))
  obtain ⟨ps, pc, HPE, rfl⟩ : ∃ ps pc, Hid ((q = false ∧ ps = ⟨#[]⟩ ∧ pc = 8) ∨ (q = true ∧ ps = T ∧ pc = 0)) ∧ e = .returned (.tuple #[.string ps, .int .i64 pc]) := by
    rcases hp2 with ⟨h, he⟩ | ⟨h, he⟩
    · exact ⟨_, _, Or.inl ⟨by rw [← HQ.out]; exact h, rfl, rfl⟩, he⟩
    · exact ⟨_, _, Or.inr ⟨by rw [← HQ.out]; exact h, by rw [← HT.out], rfl⟩, he⟩
  obtain ⟨x0, x1, x2, x3, x4, x5, x6⟩ := z7_of HK2.out
  obtain ⟨y0, y1, y2, y3, y4, y5, y6⟩ := z7_of HW2.out
  clear hp2
  go_wp2
  go_region_held (fun W => W.cell? ⟨w.heap.size, 0, none⟩ = some (.string im) ∧ W.cell? ⟨w.heap.size, 1, none⟩ = some (.int .i64 fu) ∧ W.cell? ⟨w.heap.size, 2, none⟩ = some (.int .i64 de) ∧ W.cell? ⟨w.heap.size, 3, none⟩ = some (.string inp) ∧ W.cell? ⟨w.heap.size, 4, none⟩ = some (.int .i64 kd) ∧ W.cell? ⟨w.heap.size, 5, none⟩ = some (.slice qs ns cs) ∧ W.cell? ⟨w.heap.size, 6, none⟩ = some (.slice qe ne ce) ∧ W.cell? ⟨w1.heap.size, 0, none⟩ = some (.string im) ∧ W.cell? ⟨w1.heap.size, 1, none⟩ = some (.int .i64 fu) ∧ W.cell? ⟨w1.heap.size, 2, none⟩ = some (.int .i64 de) ∧ W.cell? ⟨w1.heap.size, 3, none⟩ = some (.string inp) ∧ W.cell? ⟨w1.heap.size, 4, none⟩ = some (.int .i64 kd) ∧ W.cell? ⟨w1.heap.size, 5, none⟩ = some (.slice q1 ns c1) ∧ W.cell? ⟨w1.heap.size, 6, none⟩ = some (.slice q2 ne c2)) (first | go_keep)
    (first
      | (go_at_call 29; go_loud (refine (plain_any im inp fu de kd _ _ sts eds _ hb1 hb2 (by rw [HNS.out]; exact (HS.out.below HB2.out).drew) (by rw [HNE.out]; exact (HE.out.below HB2.out).drew)).mono ?_; rintro e w3 ⟨sv3, ev3, rfl, h3, h4, hb3⟩; obtain ⟨q3, c3, hv3, -⟩ := owns_shape h3; obtain ⟨q4, c4, hv4, -⟩ := owns_shape h4; subst hv3 hv4; rw [HBV.out, HNS.out, HNE.out]; rw [HNS.out] at h3; rw [HNE.out] at h4; have hb23 := undrew' hb3; obtain ⟨u0, u1, u2, u3, u4, u5, u6⟩ := z7_of ((hb23.block w.heap.size (by omega)).trans HK2.out); obtain ⟨v0, v1, v2, v3, v4, v5, v6⟩ := z7_of ((hb23.block w1.heap.size hs2).trans HW2.out)))
      | (go_at_call 31; go_loud (refine (alike_any im inp fu de kd _ _ _ _ sts eds _ (by rw [HNS.out]; exact rd_owns h3) (by rw [HNS.out]; exact HS2.out.below hb23) (by rw [HNE.out]; exact rd_owns h4) (by rw [HNE.out]; exact HE2.out.below hb23)).mono ?_; rintro e w4 ⟨rfl, hb4⟩; have hb34 := hb4; obtain ⟨a0, a1, a2, a3, a4, a5, a6⟩ := z7_of ((hb34.block w.heap.size (by have := hb23.size; omega)).trans ((hb23.block w.heap.size (by omega)).trans HK2.out)); obtain ⟨b0, b1', b2', b3, b4, b5, b6⟩ := z7_of ((hb34.block w1.heap.size (by have := hb23.size; omega)).trans ((hb23.block w1.heap.size hs2).trans HW2.out)))))
  all_goals
    have hbc : Below w2.heap.size w2 w4 := hb23.trans (hb34.mono hb23.size)
    have HS4 : Hid (Rd w4 ns (.slice q1 ns c1) (prI sts)) := HS2.out.below hbc
    have HE4 : Hid (Rd w4 ne (.slice q2 ne c2) (inI eds)) := HE2.out.below hbc
    have HW4 : Hid (w4.heap[w1.heap.size]? = some (.cells #[.string im, .int .i64 fu, .int .i64 de, .string inp, .int .i64 kd, .slice q1 ns c1, .slice q2 ne c2] 73)) := (hbc.block _ hs2).trans HW2.out
    have HB4 : Hid (Below w.heap.size w w4) := HB2.out.trans (hbc.mono HB2.out.size)
    have hs4 : w1.heap.size < w4.heap.size := by have := hbc.size; omega
    clear h3 h4 hb3 hb4 hb23 hb34 hbc x0 x1 x2 x3 x4 x5 x6 y0 y1 y2 y3 y4 y5 y6 u0 u1 u2 u3 u4 u5 u6 v0 v1 v2 v3 v4 v5 v6 a0 a1 a2 a3 a4 a5 a6 b0 b1' b2' b3 b4 b5 b6
    obtain ⟨y0, y1, y2, y3, y4, y5, y6⟩ := z7_of HW4.out
    go_wp2_with fail
    refine (good_bun im inp fu de kd _ _ sts eds _ hm (by rw [HNS.out]; exact HS4.out) (by rw [HNE.out]; exact HE4.out)).mono ?_
    rintro e w5 ⟨rfl, hb5⟩
    rw [HQ.out]
    have HB5 : Hid (Below w.heap.size w w5) := HB4.out.trans (hb5.mono HB4.out.size)
    have HS5 : Hid (Rd w5 ns (.slice q1 ns c1) (prI sts)) := HS4.out.below hb5
    have HE5 : Hid (Rd w5 ne (.slice q2 ne c2) (inI eds)) := HE4.out.below hb5
    have HW5 : Hid (w5.heap[w1.heap.size]? = some (.cells #[.string im, .int .i64 fu, .int .i64 de, .string inp, .int .i64 kd, .slice q1 ns c1, .slice q2 ne c2] 73)) := (hb5.block _ hs4).trans HW4.out
    have hs5 : w1.heap.size < w5.heap.size := by have := hb5.size; omega
    clear hb5 y0 y1 y2 y3 y4 y5 y6
    rcases HPE.out with ⟨hq, hps, hpc⟩ | ⟨hq, hps, hpc⟩
    · rw [hq]
      subst hps hpc
      clear HPE hq
      go_wp2_with (go_at_call 13; refine (num_any 8 _).mono ?_; rintro e w' ⟨rfl, rfl⟩)
      go_ret
      exact ⟨rfl, HB5.out⟩
    · have hok : okB im inp fu de kd sts eds = true := by rw [HQ.out, hq]
      rw [hq]
      subst hps hpc
      obtain ⟨hA, h9, h10⟩ := okB_parts hok
      have hsm := small_of hok
      have hby1 : Bu.Byt (bnOf im inp fu de kd sts eds).im := byt_lst im
      have hby2 : Bu.Byt (bnOf im inp fu de kd sts eds).inp := byt_lst inp
      have hlT : lst ps = Bu.text (bnOf im inp fu de kd sts eds) := by rw [← HT.out]; exact lst_ofL (Bu.byt_text _ hby1 hby2)
      have hpT : Bu.parse (lst ps) = bnOf im inp fu de kd sts eds := by rw [hlT]; exact Bu.parse_text _ hsm
      have hmT : ps.size ≤ maxLen := by
        rw [← lst_len, hlT, text_len]
        have := hsm.im
        have := hsm.inp
        have := hsm.sl
        have := hsm.el
        unfold maxLen
        omega
      have HUN : Hid (∀ W, Glob W → Calls Tryd.prog 33 #[.string ps] W fun e w' => Below W.heap.size W w' ∧ ∃ q6 c6 q7 c7, e = .returned (.tuple #[.agg #[.string im, .int .i64 fu, .int .i64 de, .string inp, .int .i64 kd, .slice q6 ns c6, .slice q7 ne c7], .int .i64 0]) ∧ Rd w' ns (.slice q6 ns c6) (prI sts) ∧ Rd w' ne (.slice q7 ne c7) (inI eds)) := by
        intro W hGW
        refine (unpack_any ps W hGW hmT).mono ?_
        rintro e w' ⟨hb, hp⟩
        rw [hpT, hlT] at hp
        rcases hp with ⟨-, sv, ev, rfl, h1, h2⟩ | ⟨hbad, -⟩
        · refine ⟨hb, ?_⟩
          have e1 : (bnOf im inp fu de kd sts eds).sts.length = ns := by show (dnP sts).length = ns; unfold dnP; rw [List.length_map, HNS.out]
          have e2 : (bnOf im inp fu de kd sts eds).eds.length = ne := by show (dnI eds).length = ne; unfold dnI; rw [List.length_map, HNE.out]
          have e3 : prs (bnOf im inp fu de kd sts eds).sts = prI sts := by rw [prI_prs]; show prI (upP (dnP sts)) = prI sts; rw [up_dnP sts h9]
          have e4 : ints (bnOf im inp fu de kd sts eds).eds = inI eds := by rw [inI_ints]; show inI (upI (dnI eds)) = inI eds; rw [up_dnI eds h10]
          rw [e1, e3] at h1
          rw [e2, e4] at h2
          obtain ⟨q6, c6, hv6, -⟩ := owns_shape h1
          obtain ⟨q7, c7, hv7, -⟩ := owns_shape h2
          subst hv6 hv7
          refine ⟨q6, c6, q7, c7, ?_, rd_owns h1, rd_owns h2⟩
          have i1 : ofL (bnOf im inp fu de kd sts eds).im = im := ofL_lst im
          have i2 : ofL (bnOf im inp fu de kd sts eds).inp = inp := ofL_lst inp
          have i3 : (((bnOf im inp fu de kd sts eds).fu : Nat) : Int) = fu := by show ((fu.toNat : Nat) : Int) = fu; have := hA.2.1; omega
          have i4 : (((bnOf im inp fu de kd sts eds).de : Nat) : Int) = de := by show ((de.toNat : Nat) : Int) = de; have := hA.2.2.2.1; omega
          have i5 : (((bnOf im inp fu de kd sts eds).kd : Nat) : Int) = kd := by show ((kd.toNat : Nat) : Int) = kd; have := hA.2.2.2.2.2.2.1; omega
          rw [i1, i2, i3, i4, i5]
          rfl
        · exact absurd ⟨okN_of hok, rfl⟩ hbad
      clear hok hA h9 h10 hsm hby1 hby2 hlT hpT hmT HPE hq
      go_wp2_with fail
      refine (HUN.out _ (HG.out.below HB5.out)).mono ?_
      rintro e w6 ⟨hb6, q6, c6, q7, c7, rfl, hr6, hr7⟩
      have HB6 : Hid (Below w.heap.size w w6) := HB5.out.trans (hb6.mono HB5.out.size)
      have HW6 : Hid (w6.heap[w1.heap.size]? = some (.cells #[.string im, .int .i64 fu, .int .i64 de, .string inp, .int .i64 kd, .slice q1 ns c1, .slice q2 ne c2] 73)) := (hb6.block _ hs5).trans HW5.out
      have HS6 : Hid (Rd w6 ns (.slice q1 ns c1) (prI sts)) := HS5.out.below hb6
      have HE6 : Hid (Rd w6 ne (.slice q2 ne c2) (inI eds)) := HE5.out.below hb6
      have HR6 : Hid (Rd w6 ns (.slice q6 ns c6) (prI sts)) := hr6
      have HR7 : Hid (Rd w6 ne (.slice q7 ne c7) (inI eds)) := hr7
      have hs6 : w1.heap.size < w6.heap.size := by have := hb6.size; omega
      have hw16 : w1.heap.size ≠ w6.heap.size := by omega
      obtain ⟨y0, y1, y2, y3, y4, y5, y6⟩ := z7_of HW6.out
      have hCW : Below w6.heap.size w6 (w6.alloc (.cells #[.string im, .int .i64 fu, .int .i64 de, .string inp, .int .i64 kd, .slice q6 ns c6, .slice q7 ne c7] 71)) := (Below.refl _ _).alloc (Nat.le_refl _) _
      clear hb6 hr6 hr7
      go_wp2
      go_region_held (fun W => W.cell? ⟨w6.heap.size, 0, none⟩ = some (.string im) ∧ W.cell? ⟨w6.heap.size, 1, none⟩ = some (.int .i64 fu) ∧ W.cell? ⟨w6.heap.size, 2, none⟩ = some (.int .i64 de) ∧ W.cell? ⟨w6.heap.size, 3, none⟩ = some (.string inp) ∧ W.cell? ⟨w6.heap.size, 4, none⟩ = some (.int .i64 kd) ∧ W.cell? ⟨w6.heap.size, 5, none⟩ = some (.slice q6 ns c6) ∧ W.cell? ⟨w6.heap.size, 6, none⟩ = some (.slice q7 ne c7) ∧ W.cell? ⟨w1.heap.size, 0, none⟩ = some (.string im) ∧ W.cell? ⟨w1.heap.size, 1, none⟩ = some (.int .i64 fu) ∧ W.cell? ⟨w1.heap.size, 2, none⟩ = some (.int .i64 de) ∧ W.cell? ⟨w1.heap.size, 3, none⟩ = some (.string inp) ∧ W.cell? ⟨w1.heap.size, 4, none⟩ = some (.int .i64 kd) ∧ W.cell? ⟨w1.heap.size, 5, none⟩ = some (.slice q1 ns c1) ∧ W.cell? ⟨w1.heap.size, 6, none⟩ = some (.slice q2 ne c2)) (first | go_keep)
        (first
          | (go_at_call 29; go_loud (refine (plain_any im inp fu de kd _ _ sts eds _ hb1 hb2 (by rw [HNS.out]; exact (HR6.out.alloc _).drew) (by rw [HNE.out]; exact (HR7.out.alloc _).drew)).mono ?_; rintro e w7 ⟨sv7, ev7, rfl, h7, h8, hb7⟩; obtain ⟨q8, c8, hv8, -⟩ := owns_shape h7; obtain ⟨q9, c9, hv9, -⟩ := owns_shape h8; subst hv8 hv9; rw [HBV.out, HNS.out, HNE.out]; rw [HNS.out] at h7; rw [HNE.out] at h8; have hb67 := undrew' hb7; obtain ⟨u0, u1, u2, u3, u4, u5, u6⟩ := z7_of ((hb67.block w6.heap.size (by simp)).trans (hp_new _ _)); obtain ⟨v0, v1, v2, v3, v4, v5, v6⟩ := z7_of ((hb67.block w1.heap.size (by simp; omega)).trans ((hCW.block w1.heap.size hs6).trans HW6.out))))
          | (go_at_call 31; go_loud (refine (alike_any im inp fu de kd _ _ _ _ sts eds _ (by rw [HNS.out]; exact rd_owns h7) (by rw [HNS.out]; exact (HS6.out.alloc _).below hb67) (by rw [HNE.out]; exact rd_owns h8) (by rw [HNE.out]; exact (HE6.out.alloc _).below hb67)).mono ?_; rintro e w8 ⟨rfl, hb8⟩; obtain ⟨a0, a1, a2, a3, a4, a5, a6⟩ := z7_of ((hb8.block w6.heap.size (by have := hb67.size; simp at this; omega)).trans ((hb67.block w6.heap.size (by simp)).trans (hp_new _ _))); obtain ⟨b0, b1', b2', b3, b4, b5, b6⟩ := z7_of ((hb8.block w1.heap.size (by have := hb67.size; simp at this; omega)).trans ((hb67.block w1.heap.size (by simp; omega)).trans ((hCW.block w1.heap.size hs6).trans HW6.out))))))
      all_goals
        have HB8 : Hid (Below w.heap.size w w8) := HB6.out.trans ((hCW.trans ((hb67.trans (hb8.mono hb67.size)).mono (by simp))).mono HB6.out.size)
        clear h7 h8 hb7 hb8 hb67 hCW y0 y1 y2 y3 y4 y5 y6 u0 u1 u2 u3 u4 u5 u6 v0 v1 v2 v3 v4 v5 v6 a0 a1 a2 a3 a4 a5 a6 b0 b1' b2' b3 b4 b5 b6
        go_wp2_with (go_at_call 13; refine (num_any 0 _).mono ?_; rintro e w' ⟨rfl, rfl⟩)
        go_ret
        exact ⟨rfl, HB8.out⟩
end Go.Proofs.YtbmaiioecnmopaaDoor

/-
  A BUNDLE AMONG THE ARGUMENTS OF A CARD, OPENED. By the verifier of the loop 'triage'.
-/
namespace Go.Proofs.YtbmaiioecnmopaaDoor
open Go.ChangeShapes Go.WideShapes Go.ChangeAt Go.RowKit

theorem trod_struct7 {H : Type} {enc : TypeId × Value → H} {P : Program} {w : World} {base : Nat} {spare : Nat → Bool} {held : Bool} {t : TypeId} {f0 f1 f2 f3 f4 f5 f6 : Field} {fuel : Nat} {cs : List Value} {x : DataW H × List MemPlace} (ht : P.underlying t = some (.struct #[f0, f1, f2, f3, f4, f5, f6])) (h : DataW.trod enc P w base spare held fuel t cs = some x) :
    ∃ y0 y1 y2 y3 y4 y5 y6 n, x = (.agg [y0.1, y1.1, y2.1, y3.1, y4.1, y5.1, y6.1], y0.2 ++ (y1.2 ++ (y2.2 ++ (y3.2 ++ (y4.2 ++ (y5.2 ++ y6.2)))))) ∧ cs.length = P.cellsOf t ∧ DataW.trod enc P w base spare held n f0.type ((cs.drop f0.offset).take (P.cellsOf f0.type)) = some y0 ∧
      DataW.trod enc P w base spare held n f1.type ((cs.drop f1.offset).take (P.cellsOf f1.type)) = some y1 ∧ DataW.trod enc P w base spare held n f2.type ((cs.drop f2.offset).take (P.cellsOf f2.type)) = some y2 ∧
      DataW.trod enc P w base spare held n f3.type ((cs.drop f3.offset).take (P.cellsOf f3.type)) = some y3 ∧ DataW.trod enc P w base spare held n f4.type ((cs.drop f4.offset).take (P.cellsOf f4.type)) = some y4 ∧
      DataW.trod enc P w base spare held n f5.type ((cs.drop f5.offset).take (P.cellsOf f5.type)) = some y5 ∧ DataW.trod enc P w base spare held n f6.type ((cs.drop f6.offset).take (P.cellsOf f6.type)) = some y6 := by
  obtain ⟨xs, n, _, rfl, hl, hlen, hf⟩ := DataW.trod_struct ht h
  match xs, hlen with
  | [y0, y1, y2, y3, y4, y5, y6], _ => exact ⟨y0, y1, y2, y3, y4, y5, y6, n, by simp, hl, by simpa using hf 0 f0 rfl, by simpa using hf 1 f1 rfl, by simpa using hf 2 f2 rfl, by simpa using hf 3 f3 rfl, by simpa using hf 4 f4 rfl, by simpa using hf 5 f5 rfl, by simpa using hf 6 f6 rfl⟩

theorem Tryd.cellsBun : Tryd.prog.cellsOf 71 = 7 := by kernel_rfl
theorem Tryd.cellsSt : Tryd.prog.cellsOf 39 = 2 := by kernel_rfl
theorem Tryd.cellsSl : Tryd.prog.cellsOf 42 = 1 := by kernel_rfl
theorem Tryd.cellsIs : Tryd.prog.cellsOf 43 = 1 := by kernel_rfl
/-- how many elements a datum of a slice has. -/
def lenD {H : Type} : DataW H → Nat
  | .slice a _ => a.length
  | _ => 0
set_option maxRecDepth 100000 in
set_option maxHeartbeats 1600000 in
theorem bun_of_trod {H : Type} {enc : TypeId × Value → H} {W : World} {base : Nat} {v : Value} {d : DataW H} {p : List MemPlace} (hv : Value.okWide Tryd.prog W .any base 71 v)
    (h : DataW.Trod enc Tryd.prog W 0 (fun _ => true) true 71 v d p) (hlt : ∀ x ∈ p, x.block < W.heap.size) :
    ∃ im inp fu de kd sv ev sts eds y0 y1 y2 y3 y4 y5 y6, v = bunV im inp fu de kd sv ev ∧ inp.size ≤ maxLen ∧ Rd W sts.length sv (prI sts) ∧ Rd W eds.length ev (inI eds) ∧ d = .agg [y0, y1, y2, y3, y4, y5, y6] ∧ lenD y5 = sts.length ∧ lenD y6 = eds.length := by
  obtain ⟨cs, rfl, hcs⟩ := okWide_struct Tryd.underlying71 hv
  obtain ⟨fuel, hf⟩ := h
  obtain ⟨y0, y1, y2, y3, y4, y5, y6, n, hx, hl, t0, t1, t2, t3, t4, t5, t6⟩ := trod_struct7 Tryd.underlying71 hf
  rw [Tryd.cellsBun] at hcs
  obtain ⟨c0, c1, c2, c3, c4, c5, c6, rfl⟩ : ∃ c0 c1 c2 c3 c4 c5 c6, cs = #[c0, c1, c2, c3, c4, c5, c6] := by
    obtain ⟨l⟩ := cs
    match l, hcs with
    | [c0, c1, c2, c3, c4, c5, c6], _ => exact ⟨c0, c1, c2, c3, c4, c5, c6, rfl⟩
  simp only [Value.cells] at t0 t1 t2 t3 t4 t5 t6
  have e0 : List.take (Tryd.prog.cellsOf 9) (List.drop 0 [c0, c1, c2, c3, c4, c5, c6]) = [c0] := by rw [Tryd.cellsStr]; rfl
  have e1 : List.take (Tryd.prog.cellsOf 3) (List.drop 1 [c0, c1, c2, c3, c4, c5, c6]) = [c1] := by rw [Tryd.cellsInt]; rfl
  have e2 : List.take (Tryd.prog.cellsOf 3) (List.drop 2 [c0, c1, c2, c3, c4, c5, c6]) = [c2] := by rw [Tryd.cellsInt]; rfl
  have e3 : List.take (Tryd.prog.cellsOf 9) (List.drop 3 [c0, c1, c2, c3, c4, c5, c6]) = [c3] := by rw [Tryd.cellsStr]; rfl
  have e4 : List.take (Tryd.prog.cellsOf 3) (List.drop 4 [c0, c1, c2, c3, c4, c5, c6]) = [c4] := by rw [Tryd.cellsInt]; rfl
  have e5 : List.take (Tryd.prog.cellsOf 42) (List.drop 5 [c0, c1, c2, c3, c4, c5, c6]) = [c5] := by rw [Tryd.cellsSl]; rfl
  have e6 : List.take (Tryd.prog.cellsOf 43) (List.drop 6 [c0, c1, c2, c3, c4, c5, c6]) = [c6] := by rw [Tryd.cellsIs]; rfl
  rw [e0] at t0
  rw [e1] at t1
  rw [e2] at t2
  rw [e3] at t3
  rw [e4] at t4
  rw [e5] at t5
  rw [e6] at t6
  obtain ⟨im, h0, -, -⟩ := DataW.trod_string Tryd.underlying9 t0
  obtain ⟨fu, h1, -, -⟩ := DataW.trod_int Tryd.underlying3 t1
  obtain ⟨de, h2, -, -⟩ := DataW.trod_int Tryd.underlying3 t2
  obtain ⟨inp, h3, -, hm⟩ := DataW.trod_string Tryd.underlying9 t3
  obtain ⟨kd, h4, -, -⟩ := DataW.trod_int Tryd.underlying3 t4
  simp only [List.cons.injEq, and_true] at h0 h1 h2 h3 h4
  subst h0 h1 h2 h3 h4
  simp only [Prod.mk.injEq] at hx
  have hl5 : ∀ x ∈ y5.2, x.block < W.heap.size := fun x hx' => hlt x (by rw [hx.2]; simp [hx'])
  have hl6 : ∀ x ∈ y6.2, x.block < W.heap.size := fun x hx' => hlt x (by rw [hx.2]; simp [hx'])
  obtain ⟨sts, hS, hSl⟩ : ∃ sts : List (Int × Int), Rd W sts.length c5 (prI sts) ∧ lenD y5.1 = sts.length := by
    rcases Go.Deep.open_slice_pairs Tryd.undSitesB Tryd.underlying39 Tryd.cellsSt rfl rfl Tryd.cellsInt Tryd.cellsInt t5 with ⟨hcs5, hx5⟩ | ⟨a, len, cap, m, k, V0, V1, D0, D1, P0, P1, hcs5, -, hle, hmx, hmm, hx5, hcell⟩
    · simp only [List.cons.injEq, and_true] at hcs5
      subst hcs5
      exact ⟨[], rd_nil W, by rw [hx5]; rfl⟩
    · simp only [List.cons.injEq, and_true] at hcs5
      subst hcs5
      simp only [if_true] at hmm
      subst hmm
      have hsl : ((List.range len).map fun i => (intOf (V0 i), intOf (V1 i))).length = len := by simp
      refine ⟨(List.range len).map fun i => (intOf (V0 i), intOf (V1 i)), ?_, by rw [hx5, hsl]; simp [lenD]⟩
      rw [hsl]
      refine ⟨some a, m, rfl, hle, hmx, fun h0 => ?_⟩
      obtain ⟨b, off, spot⟩ := a
      have hspot : spot = none := by simpa [Addr.add] using World.cell?_spot (hcell 0 (by omega)).1
      subst hspot
      refine ⟨b, off, rfl, hl5 (.cell b off) (by rw [hx5]; exact List.mem_append_left _ (MemPlace.mem_row.2 ⟨0, by omega, by simp⟩)), ?_⟩
      intro i u hi
      have hil : i < len * 2 := by
        have := (List.getElem?_eq_some_iff.1 hi).1
        rw [prI_len, hsl] at this
        exact this
      have each : ∀ j, j < len → W.cell? ⟨b, off + j * 2, none⟩ = some (.int .i64 (intOf (V0 j))) ∧ W.cell? ⟨b, off + (j * 2 + 1), none⟩ = some (.int .i64 (intOf (V1 j))) := by
        intro j hj
        obtain ⟨g1, g2, g3, g4⟩ := hcell j (by omega)
        obtain ⟨z0, hz0, -, -⟩ := DataW.trod_int Tryd.underlying3 g3
        obtain ⟨z1, hz1, -, -⟩ := DataW.trod_int Tryd.underlying3 g4
        simp only [List.cons.injEq, and_true] at hz0 hz1
        rw [hz0] at g1 ⊢
        rw [hz1] at g2 ⊢
        rw [add_plain] at g1 g2
        exact ⟨g1, g2⟩
      obtain ⟨g1, g2⟩ := prI_get ((List.range len).map fun i => (intOf (V0 i), intOf (V1 i))) (i / 2) (by rw [hsl]; omega)
      have hget : ((List.range len).map fun i => (intOf (V0 i), intOf (V1 i)))[i / 2]?.getD (0, 0) = (intOf (V0 (i / 2)), intOf (V1 (i / 2))) := by
        rw [List.getElem?_map, List.getElem?_range (by omega)]; rfl
      rw [hget] at g1 g2
      rcases Nat.mod_two_eq_zero_or_one i with h2 | h2
      · have hi2 : i = i / 2 * 2 := by omega
        rw [hi2] at hi ⊢
        rw [hi] at g1
        rw [g1]
        exact (each (i / 2) (by omega)).1
      · have hi2 : i = i / 2 * 2 + 1 := by omega
        rw [hi2] at hi ⊢
        rw [hi] at g2
        rw [g2]
        exact (each (i / 2) (by omega)).2
  obtain ⟨eds, hE, hEl⟩ : ∃ eds : List Int, Rd W eds.length c6 (inI eds) ∧ lenD y6.1 = eds.length := by
    rcases open_ints Tryd.undInts Tryd.underlying3 Tryd.cellsInt t6 with ⟨hcs6, hx6⟩ | ⟨a, len, cap, zs, hcs6, -, hle, hmx, hz, hx6, hcell, -⟩
    · simp only [List.cons.injEq, and_true] at hcs6
      subst hcs6
      exact ⟨[], rd_nil W, by rw [hx6]; rfl⟩
    · simp only [List.cons.injEq, and_true] at hcs6
      subst hcs6
      simp only [if_true] at hz
      have hsl : (zs.take len).length = len := by simp; omega
      refine ⟨zs.take len, ?_, by rw [hx6, hsl]; simp [lenD, lits]; omega⟩
      rw [hsl]
      refine ⟨some a, cap, rfl, hle, hmx, fun h0 => ?_⟩
      obtain ⟨b, off, spot⟩ := a
      have hspot : spot = none := by simpa [Addr.add] using World.cell?_spot (hcell 0 (by omega))
      subst hspot
      refine ⟨b, off, rfl, hl6 (.cell b off) (by rw [hx6]; exact MemPlace.mem_row.2 ⟨0, by omega, by simp⟩), ?_⟩
      intro i u hi
      have hil : i < len := by
        have := (List.getElem?_eq_some_iff.1 hi).1
        simp [inI] at this
        omega
      have h1 := hcell i (by omega)
      rw [add_plain] at h1
      rw [h1]
      rw [inI_get _ i (by rw [hsl]; exact hil), List.getElem?_take_of_lt hil] at hi
      rw [List.getD_eq_getElem?_getD]
      exact hi
  exact ⟨im, inp, fu, de, kd, c5, c6, sts, eds, y0.1, y1.1, y2.1, y3.1, y4.1, y5.1, y6.1, rfl, hm, hS, hE, hx.1, hSl, hEl⟩
end Go.Proofs.YtbmaiioecnmopaaDoor

/-
  THE ROW OF 'triagelaw.Packs' PROVED, AND ITS TIED CARD. By the verifier of the loop 'triage'.
-/
namespace Go.Proofs.YtbmaiioecnmopaaDoor
open Go.ChangeShapes Go.WideShapes Go.ChangeAt Go.RowKit
open Go.ChangeMaps (open_string shut_string)

theorem Tryd.laidOutB : laidOutB Tryd.prog = true := by kernel_rfl
theorem Tryd.bytesSt : Tryd.prog.bytesOf 39 = 16 := by kernel_rfl
theorem Tryd.bytesIn : Tryd.prog.bytesOf 3 = 8 := by kernel_rfl
theorem sized_sites {H : Type} {y0 y1 y2 y3 y4 y5 y6 : DataW H} {ts : List TypeId} {ds : List (DataW H)} (h : (DataW.weightsEach Tryd.prog (71 :: ts) (.agg [y0, y1, y2, y3, y4, y5, y6] :: ds)).all (· ≤ reachBytes) = true) : lenD y5 ≤ 8796093022000 := by
  cases y5 with
  | slice el sp =>
    have := List.all_eq_true.1 h _ (DataW.weights_mem_each (j := 0) (t := 71) rfl rfl ((el.length + sp.length) * Tryd.prog.bytesOf 39) (by simp [DataW.weights, DataW.weightsEach, Tryd.underlying71]))
    rw [Tryd.bytesSt] at this
    have h2 : (el.length + sp.length) * 16 ≤ reachBytes := by simpa using this
    unfold reachBytes at h2
    show el.length ≤ _
    omega
  | _ => exact Nat.zero_le _
theorem sized_edges {H : Type} {y0 y1 y2 y3 y4 y5 y6 : DataW H} {ts : List TypeId} {ds : List (DataW H)} (h : (DataW.weightsEach Tryd.prog (71 :: ts) (.agg [y0, y1, y2, y3, y4, y5, y6] :: ds)).all (· ≤ reachBytes) = true) : lenD y6 ≤ 17592186043904 := by
  cases y6 with
  | slice el sp =>
    have := List.all_eq_true.1 h _ (DataW.weights_mem_each (j := 0) (t := 71) rfl rfl ((el.length + sp.length) * Tryd.prog.bytesOf 3) (by simp [DataW.weights, DataW.weightsEach, Tryd.underlying71]))
    rw [Tryd.bytesIn] at this
    have h2 : (el.length + sp.length) * 8 ≤ reachBytes := by simpa using this
    unfold reachBytes at h2
    show el.length ≤ _
    omega
  | _ => exact Nat.zero_le _

set_option maxRecDepth 100000 in
theorem packs_lifted (os : Os) (started : os.Started) (H : Type) (enc : TypeId × Value → H) :
    ReturnsInHanded {} Tryd.checked os 8 .any (fun w args => (Rows.packsSpec.pre enc Tryd.prog Tryd.f8 [] false w args ∧ laidMetH Tryd.prog laid3 w) ∧ sizedMet enc Tryd.prog Tryd.f8 (OpenSpec.ofChange Rows.packsSpec) false w args)
      (Rows.packsSpec.post enc Tryd.prog Tryd.f8 false true false false) := by
  refine returnsInHanded_of_change_and (C := Tryd.checked) (X := fun w _ => laidMetH Tryd.prog laid3 w) (fun _ _ _ hh h => h.of_heap hh) Tryd.own started (by kernel_rfl) Tryd.func8
    (ChangeSpec.witness_shaped (enc := enc) (C := Tryd.checked) (os := os) (X := fun w _ => laidMetH Tryd.prog laid3 w) false (World.doorLaid Tryd.prog 400 os) #[.agg #[.string ByteArray.empty, .int .i64 0, .int .i64 0, .string ByteArray.empty, .int .i64 0, .slice none 0 0, .slice none 0 0]] 8 rfl (World.shaped_of_RefB (by kernel_rfl) (by kernel_rfl)) (by kernel_rfl) (by kernel_rfl) (by kernel_rfl) (door_met os _)) ?_
  intro W base args ds gs before hval0 hW _ hR hL _
  have hval : ∀ (j : Nat) t v, Tryd.f8.params[j]? = some t → args[j]? = some v → Value.okWide Tryd.prog W .any base t v := hval0
  have hW' := hW
  obtain ⟨p, q, hA0, hV, rfl, hfz, hnd⟩ := hW
  have hA : DataW.TrodAll enc Tryd.prog W 0 (fun _ => true) true Tryd.f8.params.toList args.toList ds p := hA0
  rw [Tryd.params8] at hA hval
  obtain ⟨v0, d0, rfl, rfl, h0⟩ := trodAll_one hA
  obtain ⟨rfl, rfl⟩ := trodVars_none hV
  have hlt : ∀ x ∈ p, x.block < W.heap.size := fun x hx => by simpa using hW'.lt x (by simpa using hx)
  obtain ⟨im, inp, fu, de, kd, sv, ev, sts, eds, y0, y1, y2, y3, y4, y5, y6, rfl, hm, hS, hE, rfl, hl5, hl6⟩ := bun_of_trod (hval 0 71 v0 rfl rfl) h0 hlt
  have e1 : Rows.packsSpec.fn H ([.agg [y0, y1, y2, y3, y4, y5, y6]] ++ []) = { results := [.lit (.bool true)], args := [.agg [y0, y1, y2, y3, y4, y5, y6]] } := by simp [Rows.packsSpec]
  have hb1 := sized_sites hR
  have hb2 := sized_edges hR
  rw [hl5] at hb1
  rw [hl6] at hb2
  refine (packs_walk im inp fu de kd sv ev sts eds W (glob_of_laid hL) hm hb1 hb2 hS hE).mono fun e W' ⟨he, hb⟩ => ?_
  subst he
  refine ⟨_, rfl, _, _, _, [], p, [], hW', ?_, ?_, ?_, hb.frame _, fun h => by cases h⟩
  · rw [e1]; exact trodAll_mk1 (shut_bool Tryd.underlying4 true)
  · rw [e1]; exact trodAll_mk1 (Below.trod Tryd.laidOutB (by kernel_rfl) (of_decide_eq_true (by kernel_rfl)) h0 hb hlt)
  · rw [e1]; rfl

theorem packs_holds : Rows.PacksSaid :=
  OpenClaim.holds_of_wide 8 Tryd.f8 rfl rfl rfl rfl rfl rfl rfl ⟨rfl, rfl, rfl, rfl, rfl⟩ rfl rfl rfl rfl rfl (by kernel_rfl) Tryd.func8 (by kernel_rfl)
    (of_decide_eq_true (by kernel_rfl)) (by unfold Func.isWrapper; rw [if_neg (of_decide_eq_false (by kernel_rfl))]; exact ⟨rfl, rfl⟩)
    (fun os started H enc _ => packs_lifted os started H enc)

theorem packs_card : Rows.PacksCardSaid :=
  Claim7.holds_tied_plain_at .later [] [.handle, .sentinel, .data] true Rows.packsCard.stood.harness true
    packs_holds (fun _ h => by cases h) (by kernel_rfl) (fun _ h => by cases h) packs_row_tie rfl ⟨rfl, rfl⟩ (by kernel_rfl) rfl
    (fun f fn hf hfn => by
      obtain rfl : f = 8 := Option.some.inj ((show Tryd.prog.funcNamed "triage/triagelaw.Packs" = some 8 by kernel_rfl).symm.trans hf) |>.symm
      obtain rfl : fn = Tryd.f8 := (Option.some.inj (Tryd.func8.symm.trans hfn)).symm
      exact ⟨by kernel_rfl, fun j t ht => by
        rw [Tryd.params8] at ht
        have hm : t ∈ [71] := by simpa using Array.mem_of_getElem? ht
        have hall : ([71].all fun u => !Tryd.prog.wantsStandIn u) = true := by kernel_rfl
        exact (show Tryd.prog.wantsStandIn t = false by simpa using List.all_eq_true.1 hall t hm)⟩)
    (by kernel_rfl)
end Go.Proofs.YtbmaiioecnmopaaDoor

/-
  THE PLAIN MATHEMATICS of a burst (P8): Flip's text, byte by byte. Nothing of the dump. By the verifier of the loop 'triage'.
-/
namespace Go.Proofs.YtbmaiioecnmopaaDoor
namespace Bu

/-- the bits below n that a test picks, as a number. -/
def mk (f : Nat → Bool) : Nat → Nat
  | 0 => 0
  | k + 1 => if f k then mk f k ^^^ 2 ^ k else mk f k
theorem mk_bit (f : Nat → Bool) : ∀ n k, (mk f n).testBit k = (decide (k < n) && f k) := by
  intro n
  induction n with
  | zero => intro k; simp [mk]
  | succ n ih =>
    intro k
    unfold mk
    by_cases hf : f n = true
    · rw [if_pos hf, Nat.testBit_xor, ih, Nat.testBit_two_pow]
      by_cases hk : n = k
      · subst hk; simp [hf]
      · have : (decide (k < n + 1)) = decide (k < n) := decide_eq_decide.2 (by omega)
        simp [hk, this]
    · rw [if_neg hf, ih]
      by_cases hk : n = k
      · subst hk; simp [hf]
      · have : (decide (k < n + 1)) = decide (k < n) := decide_eq_decide.2 (by omega)
        rw [this]
theorem mk_lt (f : Nat → Bool) (n : Nat) : mk f n < 2 ^ n := by
  induction n with
  | zero => simp [mk]
  | succ n ih =>
    unfold mk
    have h2 : 2 ^ n < 2 ^ (n + 1) := Nat.pow_lt_pow_right (by omega) (by omega)
    split
    · exact Nat.xor_lt_two_pow (by omega) h2
    · omega
/-- which bits of byte i are turned by a burst z at bit a. -/
def hitB (a z i k : Nat) : Bool := decide (a ≤ 8 * i + k) && z.testBit (8 * i + k - a)
/-- byte i behind a burst, its bits below n looked at. -/
def flipB (a z i b n : Nat) : Nat := b ^^^ mk (hitB a z i) n
theorem flipB_lt {a z i b n : Nat} (hb : b < 256) (hn : n ≤ 8) : flipB a z i b n < 256 := by
  have h1 := mk_lt (hitB a z i) n
  have h2 : 2 ^ n ≤ 2 ^ 8 := Nat.pow_le_pow_right (by omega) hn
  exact Nat.xor_lt_two_pow (n := 8) hb (by omega)
theorem flipB_step (a z i b n : Nat) : flipB a z i b (n + 1) = if hitB a z i n then flipB a z i b n ^^^ 2 ^ n else flipB a z i b n := by
  unfold flipB
  have h : mk (hitB a z i) (n + 1) = if hitB a z i n then mk (hitB a z i) n ^^^ 2 ^ n else mk (hitB a z i) n := rfl
  rw [h]
  split
  · rw [Nat.xor_assoc]
  · rfl
/-- a text behind a burst. -/
def flipL (a z : Nat) (l : List Nat) : List Nat := (List.range l.length).map fun i => flipB a z i (l[i]?.getD 0) 8
theorem flipL_len (a z : Nat) (l : List Nat) : (flipL a z l).length = l.length := by simp [flipL]
theorem flipL_at (a z : Nat) (l : List Nat) (i : Nat) (hi : i < l.length) : (flipL a z l)[i]?.getD 0 = flipB a z i (l[i]?.getD 0) 8 := by
  unfold flipL
  rw [List.getElem?_map, List.getElem?_range hi]
  rfl
theorem byt_flipL (a z : Nat) (l : List Nat) (h : Byt l) : Byt (flipL a z l) := by
  intro b hb
  unfold flipL at hb
  obtain ⟨i, hi, rfl⟩ := List.mem_map.1 hb
  have hi' : i < l.length := by simpa using hi
  refine flipB_lt ?_ (Nat.le_refl _)
  rw [List.getElem?_eq_getElem hi']
  exact h _ (List.getElem_mem hi')
/-- a bundle's text with a burst in it that is a bundle's text is the same one. -/
theorem flip_no {b c : Bn} (h1 : Byt b.im) (h2 : Byt b.inp) (h3 : Byt c.im) (h4 : Byt c.inp) {a z : Nat} (hz : z < 2 ^ 32) (h : text c = flipL a z (text b)) : text c = text b := by
  refine no_burst (at' := a) (z := z) h1 h2 h3 h4 (by rw [h, flipL_len]) hz ?_
  intro i k hi hk
  rw [h, flipL_at _ _ _ _ hi]
  unfold flipB
  rw [Nat.testBit_xor, mk_bit]
  simp [hk, hitB]
end Bu
end Go.Proofs.YtbmaiioecnmopaaDoor

/-
  BUNDLES, THE DOCUMENT's SIDE (package triageref): Flip. By the verifier of the loop 'triage'.
-/
namespace Go.Proofs.YtbmaiioecnmopaaDoor
open Go.RowKit

/-- a burst's bits. -/
def maskN (mask : Int) : Nat := (mask % 4294967296).toNat

theorem bits_and_one (x : Int) : bits .and .i64 x 1 = x % 2 := by
  have h1 : (BitVec.ofInt 64 (1 : Int)).toNat = 1 := by decide
  show IntKind.i64.wrap ((BitVec.ofInt 64 x &&& BitVec.ofInt 64 1).toNat : Int) = _
  rw [BitVec.toNat_and, h1, Nat.and_one_is_mod, BitVec.toNat_ofInt]
  simp [IntKind.wrap, IntKind.bits, IntKind.signed]
  omega
theorem bits_xor_byte (c k : Nat) (hc : c < 256) (hk : k < 8) : bits .xor .i64 (c : Int) ((2 : Int) ^ k) = ((c ^^^ 2 ^ k : Nat) : Int) := by
  have h2 : 2 ^ k < 256 := Nat.lt_of_lt_of_le (Nat.pow_lt_pow_right (by omega) hk) (by decide)
  have e1 : (BitVec.ofInt 64 (c : Int)).toNat = c := by rw [BitVec.ofInt_natCast, BitVec.toNat_ofNat]; omega
  have e2 : (BitVec.ofInt 64 ((2 : Int) ^ k)).toNat = 2 ^ k := by
    rw [show ((2 : Int) ^ k) = ((2 ^ k : Nat) : Int) from by simp, BitVec.ofInt_natCast, BitVec.toNat_ofNat]; exact Nat.mod_eq_of_lt (Nat.lt_trans h2 (by decide))
  have h3 : c ^^^ 2 ^ k < 2 ^ 8 := Nat.xor_lt_two_pow hc (by omega)
  show IntKind.i64.wrap ((BitVec.ofInt 64 (c : Int) ^^^ BitVec.ofInt 64 ((2 : Int) ^ k)).toNat : Int) = _
  rw [BitVec.toNat_xor, e1, e2]
  simp [IntKind.wrap, IntKind.bits, IntKind.signed]
  omega
theorem wrap_pow (k : Nat) (hk : k < 8) : wrap64 ((2 : Int) ^ k) = 2 ^ k := by
  have h2 : 2 ^ k < 256 := Nat.lt_of_lt_of_le (Nat.pow_lt_pow_right (by omega) hk) (by decide)
  rw [show ((2 : Int) ^ k) = ((2 ^ k : Nat) : Int) from by simp]
  generalize 2 ^ k = m at *
  unfold wrap64
  omega
theorem mask_bit (mask : Int) (d : Nat) (hd : d < 32) : (maskN mask).testBit d = decide ((mask / 2 ^ d) % 2 = 1) := by
  unfold maskN
  rw [Nat.testBit_eq_decide_div_mod_eq]
  apply decide_eq_decide.2
  have h0 : 0 ≤ mask % 4294967296 := by omega
  obtain ⟨m, hm⟩ : ∃ m : Nat, mask % 4294967296 = (m : Int) := ⟨(mask % 4294967296).toNat, by omega⟩
  rw [hm]
  simp only [Int.toNat_natCast]
  have hme : mask = 4294967296 * (mask / 4294967296) + m := by omega
  have h2 : mask / 2 ^ d = 2 ^ (32 - d) * (mask / 4294967296) + (m : Int) / 2 ^ d := by
    conv => lhs; rw [hme]
    rw [show (4294967296 : Int) = 2 ^ d * 2 ^ (32 - d) from by rw [← Int.pow_add, show d + (32 - d) = 32 from by omega]; rfl, Int.mul_assoc, Int.add_comm, Int.add_mul_ediv_left _ _ (by have := Int.pow_pos (n := 2) (m := d) (by omega); omega), Int.add_comm]
  have h3 : ((2 : Int) ^ (32 - d)) = 2 * 2 ^ (31 - d) := by rw [show 32 - d = (31 - d) + 1 from by omega, Int.pow_succ, Int.mul_comm]
  have h4 : ((m : Int) / 2 ^ d) = ((m / 2 ^ d : Nat) : Int) := by simp
  rw [h2, h3, h4, Int.mul_assoc]
  generalize m / 2 ^ d = q
  generalize (2 : Int) ^ (31 - d) * (mask / 4294967296) = y
  omega
theorem ofL_size (l : List Nat) : (ofL l).size = l.length := by unfold ofL; simp [ByteArray.size]

set_option maxHeartbeats 3200000 in
set_option maxRecDepth 100000 in
theorem flip_at (s : ByteArray) (at' mask r : Int) (a : Nat) (w : World) (hm : s.size ≤ 100000000) (hs : 0 < s.size) (hr : at'.tmod (8 * (s.size : Int)) = r) (hra : (r < 0 ∧ r + 8 * (s.size : Int) = a) ∨ (0 ≤ r ∧ r = a)) (hr1 : -(8 * (s.size : Int)) < r) (hr2 : r < 8 * (s.size : Int)) :
    Calls Tryd.prog 34 #[.string s, .int .i64 at', .int .i64 mask] w fun e w' => e = .returned (.string (ofL (Bu.flipL a (maskN mask) (lst s)))) ∧ Below w.heap.size w w' := by
  obtain ⟨z, HZ⟩ := nm (maskN mask)
  rw [HZ.out]
  obtain ⟨L, HL⟩ := nm (Bu.flipL a z (lst s))
  rw [HL.out]
  have hal : a < 8 * s.size := by omega
  have HLL : Hid (L.length = s.size) := by show L.length = s.size; rw [← HL.out, Bu.flipL_len, lst_len]
  have HLA : Hid (∀ j, j < s.size → L.take (j + 1) = L.take j ++ [Bu.flipB a z j ((lst s)[j]?.getD 0) 8]) := by
    intro j hj
    rw [take_snoc L j 0 (by rw [HLL.out]; exact hj), ← HL.out, Bu.flipL_at _ _ _ _ (by rw [lst_len]; exact hj)]
  have HZL : Hid (z < 2 ^ 32) := by show z < 2 ^ 32; rw [← HZ.out]; unfold maskN; omega
  have hd : decide (r < 0) = true ∧ r + 8 * (s.size : Int) = a ∨ decide (r < 0) = false ∧ r = a := by
    rcases hra with ⟨h, h'⟩ | ⟨h, h'⟩
    · exact Or.inl ⟨decide_eq_true h, h'⟩
    · exact Or.inr ⟨decide_eq_false (by omega), h'⟩
  clear hra
  have h80 : (8 * (s.size : Int) == 0) = false := by rw [beq_eq_false_iff_ne]; omega
  rcases hd with ⟨hd, ha⟩ | ⟨hd, ha⟩
  all_goals
    go_enter Tryd.func34, Tryd.ntmps34
    go_wp2
    go_loopw [8, 9] (fun o i wr => ∃ j : Nat, i = .int .i64 j ∧ j ≤ s.size ∧ o = .string (ofL (L.take j)) ∧ Below w.heap.size w wr) (fun _ i _ => s.size - (intOf i).toNat)
    case atStart => exact ⟨0, rfl, by omega, rfl, Below.refl _ _⟩
    case round =>
      obtain ⟨j, rfl, hj, rfl, hb⟩ := hrel
      by_cases hlt : j < s.size
      · have hbt := lst_at s j hlt
        have hb256 : (lst s)[j]?.getD 0 < 256 := by rw [hbt]; exact (s[j]'hlt).toNat_lt
        have HT := HLA.out j hlt
        have HB : Hid (Below w.heap.size w wr) := hb
        obtain ⟨W1, rfl⟩ : ∃ W1, W1 = wr := ⟨_, rfl⟩
        go_wp2
        have HBT : Hid ((lst s)[j]?.getD 0 = (s[j]'hlt).toNat) := hbt
        rw [HBT.out] at hb256 HT
        clear hbt
        generalize (s[j]'hlt).toNat = b at *
        have HTT : Hid (L.take (j + 1) = L.take j ++ [Bu.flipB a z j b 8]) := HT
        clear HT
        go_loopw [10, 11] (fun c kk wq => ∃ k : Nat, kk = .int .i64 k ∧ k ≤ 8 ∧ c = .int .i64 (Bu.flipB a z j b k : Nat) ∧ wq = W1) (fun _ kk _ => 8 - (intOf kk).toNat)
        case atStart => exact ⟨0, rfl, by omega, by simp [Bu.flipB, Bu.mk], rfl⟩
        case round =>
          obtain ⟨k, rfl, hk, rfl, rfl⟩ := hrel
          by_cases hk8 : k < 8
          · have HST : Hid (Bu.flipB a z j b (k + 1) = if Bu.hitB a z j k then Bu.flipB a z j b k ^^^ 2 ^ k else Bu.flipB a z j b k) := Bu.flipB_step a z j b k
            have hcl := Bu.flipB_lt (a := a) (z := z) (i := j) (n := k) hb256 (Nat.le_of_lt hk8)
            generalize Bu.flipB a z j b k = c at *
            by_cases h1 : 8 * j + k < a
            · have HH : Hid (Bu.hitB a z j k = false) := by show Bu.hitB a z j k = false; unfold Bu.hitB; rw [decide_eq_false (by omega)]; rfl
              rw [HH.out, if_neg (by simp)] at HST
              have e1 : decide ((0 : Int) ≤ 8 * (j : Int) + (k : Int) - (a : Int)) = false := decide_eq_false (by omega)
              go_wp2
              go_roundw
              case rel => exact ⟨k + 1, by go_num, by omega, by rw [HST.out], by first | exact trivial | rfl⟩
              case measure => simp [intOf]; omega
            · by_cases h2 : 32 ≤ 8 * j + k - a
              · have HH : Hid (Bu.hitB a z j k = false) := by
                  show Bu.hitB a z j k = false
                  unfold Bu.hitB
                  rw [Nat.testBit_lt_two_pow (Nat.lt_of_lt_of_le HZL.out (Nat.pow_le_pow_right (by omega) h2)), Bool.and_false]
                rw [HH.out, if_neg (by simp)] at HST
                have e1 : decide ((0 : Int) ≤ 8 * (j : Int) + (k : Int) - (a : Int)) = true := decide_eq_true (by omega)
                have e2 : decide (8 * (j : Int) + (k : Int) - (a : Int) < 32) = false := decide_eq_false (by omega)
                go_wp2
                go_roundw
                case rel => exact ⟨k + 1, by go_num, by omega, by rw [HST.out], by first | exact trivial | rfl⟩
                case measure => simp [intOf]; omega
              · have e1 : decide ((0 : Int) ≤ 8 * (j : Int) + (k : Int) - (a : Int)) = true := decide_eq_true (by omega)
                have e2 : decide (8 * (j : Int) + (k : Int) - (a : Int) < 32) = true := decide_eq_true (by omega)
                obtain ⟨dd, HDD⟩ := nm (8 * j + k - a)
                have hdd : dd < 32 := by have := HDD.out; omega
                have hbv := bits_and_one (mask / 2 ^ dd)
                have HZB : Hid (z.testBit dd = decide ((mask / 2 ^ dd) % 2 = 1)) := by show z.testBit dd = _; rw [← HZ.out]; exact mask_bit mask dd hdd
                have HH : Hid (Bu.hitB a z j k = z.testBit dd) := by
                  show Bu.hitB a z j k = z.testBit dd
                  unfold Bu.hitB
                  rw [decide_eq_true (by omega), HDD.out]; rfl
                rw [HH.out, HZB.out] at HST
                have hdn : 8 * j + k - a = dd := HDD.out
                by_cases hbit : (mask / 2 ^ dd) % 2 = 1
                · rw [if_pos (by simpa using hbit)] at HST
                  rw [hbit] at hbv
                  have hx := bits_xor_byte c k hcl hk8
                  have HX : Hid (bits .xor .i64 (c : Int) ((2 : Int) ^ k) = ((c ^^^ 2 ^ k : Nat) : Int)) := hx
                  clear hx
                  have hw := wrap_pow k hk8
                  go_wp2
                  go_roundw
                  case rel => exact ⟨k + 1, by go_num, by omega, by rw [HST.out, ← HX.out]; first | done | rfl, by first | exact trivial | rfl⟩
                  case measure => simp [intOf]; omega
                · have hz0 : (mask / 2 ^ dd) % 2 = 0 := by omega
                  rw [if_neg (by simpa using hbit)] at HST
                  rw [hz0] at hbv
                  go_wp2
                  go_roundw
                  case rel => exact ⟨k + 1, by go_num, by omega, by rw [HST.out], by first | exact trivial | rfl⟩
                  case measure => simp [intOf]; omega
          · obtain rfl : k = 8 := by omega
            have hcl := Bu.flipB_lt (a := a) (z := z) (i := j) (n := 8) hb256 (Nat.le_refl _)
            generalize Bu.flipB a z j b 8 = c at *
            have hcu : ((UInt8.ofNat c).toNat : Int) = (c : Int) := by simp; omega
            have hconv : (convert 132 9 (.slice (some ⟨wr.heap.size, 0, none⟩) 1 1)).run Tryd.prog (wr.alloc (.cells #[.int .u8 (c : Int)] 5)) = .ok (.string (ofL [c])) (wr.alloc (.cells #[.int .u8 (c : Int)] 5)) :=
              run_convert_bytes_back (P := Tryd.prog) _ 132 9 5 ⟨wr.heap.size, 0, none⟩ 1 [UInt8.ofNat c] Tryd.undBytesB Tryd.underlying5 Tryd.underlying9 (by
                intro q hq
                obtain rfl : q = 0 := by simpa using hq
                rw [addr_add, World.cell?_alloc_mark]
                simp only [List.getElem_cons_zero]
                rw [hcu]; rfl)
            have HCC : Hid (ofL (L.take j) ++ ofL [c] = ofL (L.take (j + 1))) := by
              show ofL (L.take j) ++ ofL [c] = ofL (L.take (j + 1))
              rw [HTT.out]
              unfold ofL
              apply ByteArray.ext
              simp [ByteArray.data_append]
            have hsz : (ofL (L.take j)).size + (ofL [c]).size ≤ 200000000 := by
              rw [ofL_size, ofL_size, List.length_take]
              simp
              omega
            clear hcu
            go_wp2
            go_roundw
            case rel => exact ⟨j + 1, by go_num, by omega, by rw [← HCC.out], HB.out.alloc HB.out.size _⟩
            case measure => simp [intOf]; omega
      · obtain rfl : j = s.size := by omega
        have HTL : Hid (L.take s.size = L) := List.take_of_length_le (by rw [HLL.out]; exact Nat.le_refl _)
        rw [HTL.out]
        have HB : Hid (Below w.heap.size w wr) := hb
        clear hb
        go_wp2
        go_ret
        exact ⟨rfl, HB.out⟩
end Go.Proofs.YtbmaiioecnmopaaDoor

/-
  THE LAW Bursts: its walk. By the verifier of the loop 'triage'.
-/
namespace Go.Proofs.YtbmaiioecnmopaaDoor
open Go.RowKit

theorem byt_sub {l m : List Nat} (h : Bu.Byt l) (hs : ∀ x ∈ m, x ∈ l) : Bu.Byt m := fun b hb => h b (hs b hb)
theorem byt_rnum {l : List Nat} (h : Bu.Byt l) : Bu.Byt (Bu.rnum l).2 := byt_sub h fun _ hx => List.mem_of_mem_drop hx
theorem byt_rtxt {l : List Nat} (h : Bu.Byt l) : Bu.Byt (Bu.rtxt l).1 ∧ Bu.Byt (Bu.rtxt l).2 :=
  ⟨byt_sub (byt_rnum h) fun _ hx => List.mem_of_mem_take hx, byt_sub (byt_rnum h) fun _ hx => List.mem_of_mem_drop hx⟩
theorem byt_parse {l : List Nat} (h : Bu.Byt l) : Bu.Byt (Bu.parse l).im ∧ Bu.Byt (Bu.parse l).inp := by
  unfold Bu.parse
  dsimp only
  have h3 := byt_rnum (byt_rnum (byt_rnum h))
  exact ⟨(byt_rtxt h3).1, (byt_rtxt (byt_rtxt h3).2).1⟩
theorem tmod_bounds (x n : Int) (hn : 0 < n) : -n < x.tmod n ∧ x.tmod n < n := by
  refine ⟨?_, Int.tmod_lt_of_pos x hn⟩
  have h := Int.tmod_lt_of_pos (-x) hn
  rw [Int.neg_tmod] at h
  omega
theorem maskN_lt (mask : Int) : maskN mask < 2 ^ 32 := by unfold maskN; omega

set_option maxHeartbeats 3200000 in
set_option maxRecDepth 100000 in
theorem flip_none (at' mask : Int) (w : World) :
    Calls Tryd.prog 34 #[.string ⟨#[]⟩, .int .i64 at', .int .i64 mask] w fun e w' => e = .returned (.string ⟨#[]⟩) ∧ w = w' := by
  go_enter Tryd.func34, Tryd.ntmps34
  go_wp2
  go_ret
  exact ⟨rfl, rfl⟩

/-- Flip of a text that is not empty. -/
theorem flip_some (s : ByteArray) (at' mask : Int) (w : World) (hm : s.size ≤ 100000000) (hs : 0 < s.size) :
    Calls Tryd.prog 34 #[.string s, .int .i64 at', .int .i64 mask] w fun e w' => (∃ a, e = .returned (.string (ofL (Bu.flipL a (maskN mask) (lst s))))) ∧ Below w.heap.size w w' := by
  obtain ⟨h1, h2⟩ := tmod_bounds at' (8 * (s.size : Int)) (by omega)
  generalize hr : at'.tmod (8 * (s.size : Int)) = r at h1 h2
  by_cases h : r < 0
  · exact (flip_at s at' mask r (r + 8 * (s.size : Int)).toNat w hm hs hr (Or.inl ⟨h, by omega⟩) h1 h2).mono fun e w' ⟨he, hb⟩ => ⟨⟨_, he⟩, hb⟩
  · exact (flip_at s at' mask r r.toNat w hm hs hr (Or.inr ⟨by omega, by omega⟩) h1 h2).mono fun e w' ⟨he, hb⟩ => ⟨⟨_, he⟩, hb⟩

set_option maxHeartbeats 3200000 in
set_option maxRecDepth 100000 in
theorem bursts_walk (im inp : ByteArray) (fu de kd : Int) (sv ev : Value) (sts : List (Int × Int)) (eds : List Int) (at' mask : Int) (w : World) (hG : Glob w) (hm : inp.size ≤ maxLen) (hb1 : sts.length ≤ 8796093022000) (hb2 : eds.length ≤ 17592186043904) (hS : Rd w sts.length sv (prI sts)) (hE : Rd w eds.length ev (inI eds)) :
    Calls Tryd.prog 10 #[bunV im inp fu de kd sv ev, .int .i64 at', .int .i64 mask] w fun e w' => e = .returned (.bool true) ∧ Below w.heap.size w w' := by
  have HG : Hid (Glob w) := hG
  have HBV : Hid (∀ (a b : ByteArray) (x y z : Int) (p q : Value), bunV a b x y z p q = .agg #[.string a, .int .i64 x, .int .i64 y, .string b, .int .i64 z, p, q]) := fun _ _ _ _ _ _ _ => rfl
  have HS : Hid (Rd w sts.length sv (prI sts)) := hS
  have HE : Hid (Rd w eds.length ev (inI eds)) := hE
  obtain ⟨qs, cs, hvs, -, -, -⟩ := hS
  obtain ⟨qe, ce, hve, -, -, -⟩ := hE
  subst hvs hve
  obtain ⟨ns, HNS⟩ := nm sts.length
  obtain ⟨ne, HNE⟩ := nm eds.length
  rw [HNS.out] at HS
  rw [HNE.out] at HE
  rw [HNS.out, HNE.out, HBV.out]
  clear hG
  go_enter Tryd.func10, Tryd.ntmps10
  go_wp2_with fail
  refine (plain_any im inp fu de kd _ _ sts eds _ hb1 hb2 (by rw [HNS.out]; exact HS.out.alloc _) (by rw [HNE.out]; exact HE.out.alloc _)).mono ?_
  rintro e w1 ⟨sv1, ev1, rfl, h1, h2, hbA⟩
  obtain ⟨q1, c1, hv1, -⟩ := owns_shape h1
  obtain ⟨q2, c2, hv2, -⟩ := owns_shape h2
  subst hv1 hv2
  have HKB : Hid (w1.heap[w.heap.size]? = some (.cells #[.string im, .int .i64 fu, .int .i64 de, .string inp, .int .i64 kd, .slice qs ns cs, .slice qe ne ce] 71)) := (hbA.block w.heap.size (by simp)).trans (hp_new _ _)
  have HB1 : Hid (Below w.heap.size w w1) := ((Below.refl _ _).alloc (Nat.le_refl _) _).trans (hbA.mono (by simp))
  have hs1 : w.heap.size < w1.heap.size := by have := hbA.size; simp at this; omega
  have HS1 : Hid (Rd w1 ns (.slice q1 ns c1) (prI sts)) := by have := rd_owns h1; rw [HNS.out] at this; exact this
  have HE1 : Hid (Rd w1 ne (.slice q2 ne c2) (inI eds)) := by have := rd_owns h2; rw [HNE.out] at this; exact this
  rw [HNS.out, HNE.out, HBV.out]
  clear h1 h2 hbA
  go_wp2_with fail
  rw [← HBV.out]
  refine (good_bun im inp fu de kd _ _ sts eds _ hm (by rw [HNS.out]; exact HS1.out) (by rw [HNE.out]; exact HE1.out)).mono ?_
  rintro e w2 ⟨rfl, hbB⟩
  obtain ⟨q, HQ⟩ := nm (okB im inp fu de kd sts eds)
  rw [HQ.out]
  have HK2 : Hid (w2.heap[w.heap.size]? = some (.cells #[.string im, .int .i64 fu, .int .i64 de, .string inp, .int .i64 kd, .slice qs ns cs, .slice qe ne ce] 71)) := (hbB.block _ hs1).trans HKB.out
  have HB2 : Hid (Below w.heap.size w w2) := HB1.out.trans (hbB.mono HB1.out.size)
  clear hbB
  obtain ⟨x0, x1, x2, x3, x4, x5, x6⟩ := z7_of HK2.out
  go_wp2_with fail
  refine (pack_any im inp fu de kd _ _ sts eds _ (HG.out.below HB2.out) hm (by rw [HNS.out]; exact HS.out.below HB2.out) (by rw [HNE.out]; exact HE.out.below HB2.out)).mono ?_
  rintro e w3 ⟨hbC, hp2⟩
  have HB3 : Hid (Below w.heap.size w w3) := HB2.out.trans (hbC.mono HB2.out.size)
  clear hbC x0 x1 x2 x3 x4 x5 x6
  rw [HQ.out] at hp2
  rcases hp2 with ⟨hq, rfl⟩ | ⟨hq, rfl⟩
  · rw [hq]
    go_wp2_with (first | (go_at_call 13; refine (num_any 8 _).mono ?_; rintro e w' ⟨rfl, rfl⟩) | (go_at_call 34; refine (flip_none at' mask _).mono ?_; rintro e w' ⟨rfl, rfl⟩))
    go_ret
    exact ⟨rfl, HB3.out⟩
  · have hok : okB im inp fu de kd sts eds = true := by rw [HQ.out, hq]
    rw [hq]
    obtain ⟨T, HT⟩ := nm (ofL (Bu.text (bnOf im inp fu de kd sts eds)))
    rw [HT.out]
    have hsm := small_of hok
    have hby1 : Bu.Byt (bnOf im inp fu de kd sts eds).im := byt_lst im
    have hby2 : Bu.Byt (bnOf im inp fu de kd sts eds).inp := byt_lst inp
    have hlT : lst T = Bu.text (bnOf im inp fu de kd sts eds) := by rw [← HT.out]; exact lst_ofL (Bu.byt_text _ hby1 hby2)
    have hmT : T.size ≤ 1000000 ∧ 0 < T.size := by
      rw [← lst_len, hlT, text_len]
      have := hsm.im
      have := hsm.inp
      have := hsm.sl
      have := hsm.el
      omega
    obtain ⟨hmT, hpT⟩ := hmT
    have HFL : Hid (∀ W, Calls Tryd.prog 34 #[.string T, .int .i64 at', .int .i64 mask] W fun e w' => (∃ t : ByteArray, e = .returned (.string t) ∧ (t = T ∨ (t ≠ T ∧ ∀ W, Glob W → Calls Tryd.prog 33 #[.string t] W fun e w' => e = .returned (.tuple #[zeroV, .int .i64 8]) ∧ Below W.heap.size W w'))) ∧ Below W.heap.size W w') := by
      intro W
      refine (flip_some T at' mask W (by omega) hpT).mono ?_
      rintro e w' ⟨⟨a, rfl⟩, hb⟩
      refine ⟨⟨_, rfl, ?_⟩, hb⟩
      have hfb : Bu.Byt (Bu.flipL a (maskN mask) (lst T)) := Bu.byt_flipL _ _ _ (byt_lst T)
      by_cases ht : ofL (Bu.flipL a (maskN mask) (lst T)) = T
      · exact Or.inl ht
      · refine Or.inr ⟨ht, fun W' hGW => ?_⟩
        have hl := lst_ofL hfb
        have hsz : (ofL (Bu.flipL a (maskN mask) (lst T))).size = T.size := by rw [← lst_len, hl, Bu.flipL_len, lst_len]
        refine (unpack_any _ W' hGW (by rw [hsz]; unfold maxLen; omega)).mono ?_
        rintro e w'' ⟨hb', hp⟩
        rcases hp with ⟨⟨-, htx⟩, -⟩ | ⟨-, rfl⟩
        · exfalso
          apply ht
          rw [hl] at htx
          obtain ⟨y1, y2⟩ := byt_parse hfb
          have hh := htx
          rw [hlT] at hh
          have e1 := Bu.flip_no hby1 hby2 (by rw [← hlT]; exact y1) (by rw [← hlT]; exact y2) (maskN_lt mask) hh
          rw [hlT, ← hh, e1, HT.out]
        · exact ⟨rfl, hb'⟩
    have hne : (T.toList == ([] : List UInt8)) = false := by
      rw [beq_eq_false_iff_ne, ByteArray.toList_eq]
      intro h
      have h2 : T.data.toList.length = 0 := by rw [h]; rfl
      have h3 : T.data.toList.length = T.size := by rw [Array.length_toList]; rfl
      omega
    clear hok hsm hby1 hby2 hlT
    go_wp2_with (first | (go_at_call 13; refine (num_any 0 _).mono ?_; rintro e w' ⟨rfl, rfl⟩))
    refine (HFL.out _).mono ?_
    rintro e w4 ⟨⟨t, rfl, ht⟩, hbD⟩
    have HB4 : Hid (Below w.heap.size w w4) := HB3.out.trans (hbD.mono HB3.out.size)
    clear hbD
    rcases ht with rfl | ⟨hnt, HU⟩
    · go_wp2
      go_ret
      exact ⟨rfl, HB4.out⟩
    · have HUU : Hid (∀ W, Glob W → Calls Tryd.prog 33 #[.string t] W fun e w' => e = .returned (.tuple #[zeroV, .int .i64 8]) ∧ Below W.heap.size W w') := HU
      have hnt' := str_ne hnt
      clear HU
      go_wp2_with fail
      refine (HUU.out _ (HG.out.below HB4.out)).mono ?_
      rintro e w5 ⟨rfl, hbE⟩
      have HB5 : Hid (Below w.heap.size w w5) := HB4.out.trans (hbE.mono HB4.out.size)
      clear hbE
      unfold zeroV
      go_wp2_with (go_at_call 13; refine (num_any 8 _).mono ?_; rintro e w' ⟨rfl, rfl⟩)
      go_ret
      exact ⟨rfl, HB5.out.alloc HB5.out.size _⟩
end Go.Proofs.YtbmaiioecnmopaaDoor
