/-
  THE LAW Replays: its walk. By the verifier of the loop 'triage'.
-/
import Derived.Test.YtbmaiioecnmopabGreatDoorJ40
import Derived.Test.YtbmaiioecnmopabGreatDoorJ39
import Derived.Test.YtbmaiioecnmopabGreatDoorJ05
namespace Go.Proofs.YtbmaiioecnmopabGreatDoor
open Go.RowKit

theorem stale_bun (im inp : ByteArray) (fu de kd : Int) (A : Nat) (sv ev : Value) (sts : List (Int × Int)) (eds : List Int) (w : World) (hok : okB im inp fu de kd sts eds = true)
    (hS : w.ownsRow A 76 2 sv sts.length (prI sts)) (hE : Rd w eds.length ev (inI eds)) :
    Calls Tryz.prog 11 #[bunV im inp fu de kd sv ev] w fun e w' => e = .returned (.bool (!told (bnOf im inp fu de kd sts eds))) ∧ Below w.heap.size w w' := by
  obtain ⟨⟨h0, h1, h2, h3, h4, h5, h6, h7, h8⟩, h9, h10⟩ := okB_parts hok
  have e1 : ((fu.toNat : Nat) : Int) = fu := by omega
  have e2 : ((de.toNat : Nat) : Int) = de := by omega
  have e3 : ((kd.toNat : Nat) : Int) = kd := by omega
  have hds : (dnP sts).length = sts.length := by unfold dnP; rw [List.length_map]
  have hde : (dnI eds).length = eds.length := by unfold dnI; rw [List.length_map]
  have := stale_any im inp fu.toNat de.toNat kd.toNat A sv ev (dnP sts) (dnI eds) w (chk_zero _ h0) h5 (by omega) (by omega) (by rw [hds]; omega) (by rw [prI_prs, up_dnP sts h9, hds]; exact hS) (by rw [inI_ints, up_dnI eds h10, hde]; exact hE)
  rw [e1, e2, e3] at this
  have ht : told (bnOf im inp fu de kd sts eds) = tells im inp fu.toNat de.toNat kd.toNat (dnP sts) (dnI eds) := by
    unfold told bnOf
    dsimp only
    rw [ofL_lst, ofL_lst]
  rw [ht]
  exact this

set_option maxHeartbeats 6400000 in
set_option maxRecDepth 100000 in
theorem replays_walk (im inp : ByteArray) (fu de kd : Int) (sv ev : Value) (sts : List (Int × Int)) (eds : List Int) (text : ByteArray) (w : World) (hG : Glob w) (hm : inp.size ≤ maxLen) (hmt : text.size ≤ maxLen) (hb1 : sts.length ≤ 8796093022000) (hb2 : eds.length ≤ 17592186043904) (hS : Rd w sts.length sv (prI sts)) (hE : Rd w eds.length ev (inI eds)) :
    Calls Tryz.prog 3 #[bunV im inp fu de kd sv ev, .string text] w fun e w' => e = .returned (.bool true) ∧ Below w.heap.size w w' := by
  have HG : Hid (Glob w) := hG
  have HBV : Hid (∀ (a b : ByteArray) (x y z : Int) (p q : Value), bunV a b x y z p q = .agg #[.string a, .int .i64 x, .int .i64 y, .string b, .int .i64 z, p, q]) := fun _ _ _ _ _ _ _ => rfl
  have HS : Hid (Rd w sts.length sv (prI sts)) := hS
  have HE : Hid (Rd w eds.length ev (inI eds)) := hE
  obtain ⟨qs, cs, hvs, -, -, -⟩ := hS
  obtain ⟨qe, ce, hve, -, -, -⟩ := hE
  subst hvs hve
  obtain ⟨ns, HNS⟩ := nm sts.length
  obtain ⟨ne, HNE⟩ := nm eds.length
  rw [HNS.out] at HS
  rw [HNE.out] at HE
  rw [HNS.out, HNE.out, HBV.out]
  clear hG
  go_enter Tryz.func3, Tryz.ntmps3
  go_wp2_with fail
  rw [← HBV.out]
  refine (pack_any im inp fu de kd _ _ sts eds _ (HG.out.below ((Below.refl _ _).alloc (Nat.le_refl _) _)) hm (by rw [HNS.out]; exact HS.out.alloc _) (by rw [HNE.out]; exact HE.out.alloc _)).mono ?_
  rintro e w1 ⟨hbA, hp1⟩
  have HK1 : Hid (w1.heap[w.heap.size]? = some (.cells #[.string im, .int .i64 fu, .int .i64 de, .string inp, .int .i64 kd, .slice qs ns cs, .slice qe ne ce] 25)) := (hbA.block w.heap.size (by simp)).trans (hp_new _ _)
  have HB1 : Hid (Below w.heap.size w w1) := ((Below.refl _ _).alloc (Nat.le_refl _) _).trans (hbA.mono (by simp))
  have hs1 : w.heap.size < w1.heap.size := by have := hbA.size; simp at this; omega
  clear hbA
  obtain ⟨q, HQ⟩ := nm (okB im inp fu de kd sts eds)
  rw [HQ.out] at hp1
  rw [HBV.out]
  obtain ⟨x0, x1, x2, x3, x4, x5, x6⟩ := z7_of HK1.out
  have HPL : Hid (∀ W, Below w.heap.size w W → Calls Tryz.prog 7 #[bunV im inp fu de kd (.slice qs ns cs) (.slice qe ne ce)] W fun e w' => PlainP im inp fu de kd sts eds W w' e) := fun W hW => plain_any im inp fu de kd _ _ sts eds W hb1 hb2 (by rw [HNS.out]; exact HS.out.below hW) (by rw [HNE.out]; exact HE.out.below hW)
  rcases hp1 with ⟨hq, rfl⟩ | ⟨hq, rfl⟩
  · go_wp2_with fail
    rw [← HBV.out]
    refine (HPL.out _ HB1.out).mono ?_
    rintro e w2 ⟨sv1, ev1, rfl, h1, h2, hbB⟩
    obtain ⟨q1, c1, hv1, -⟩ := owns_shape h1
    obtain ⟨q2, c2, hv2, -⟩ := owns_shape h2
    subst hv1 hv2
    have HB2 : Hid (Below w.heap.size w w2) := HB1.out.trans (hbB.mono HB1.out.size)
    have HS1 : Hid (Rd w2 ns (.slice q1 ns c1) (prI sts)) := by have := rd_owns h1; rw [HNS.out] at this; exact this
    have HE1 : Hid (Rd w2 ne (.slice q2 ne c2) (inI eds)) := by have := rd_owns h2; rw [HNE.out] at this; exact this
    rw [HNS.out, HNE.out, HBV.out]
    clear h1 h2 hbB x0 x1 x2 x3 x4 x5 x6
    go_wp2_with fail
    rw [← HBV.out]
    refine (good_bun im inp fu de kd _ _ sts eds _ hm (by rw [HNS.out]; exact HS1.out.alloc _) (by rw [HNE.out]; exact HE1.out.alloc _)).mono ?_
    rintro e w3 ⟨rfl, hbC⟩
    have HB23 : Hid (Below w2.heap.size w2 w3) := below_new hbC
    have HB3 : Hid (Below w.heap.size w w3) := HB2.out.trans (HB23.out.mono HB2.out.size)
    rw [HQ.out, hq, HBV.out]
    clear hbC
    go_wp2_with (go_at_call 9; refine (num_any _ _).mono ?_; rintro e w' ⟨rfl, rfl⟩)
    refine (unpack_any text _ (HG.out.below HB3.out) hmt).mono ?_
    rintro e u1 ⟨hbu1, hpu⟩
    have HU1 : Hid (Below w.heap.size w u1) := HB3.out.trans (hbu1.mono HB3.out.size)
    clear hbu1
    rcases hpu with ⟨hokt, sv3, ev3, rfl, hs3, he3⟩ | ⟨hnot, rfl⟩
    · have HRT : Hid (replP text = if told (Bu.parse (lst text)) = true then 0 else 9) := by
        show replP text = _
        unfold replP
        rw [if_pos hokt]
      have HOKN : Hid (okN (Bu.parse (lst text)) = true) := hokt.1
      obtain ⟨y1, y2⟩ := parse_byt (byt_lst text)
      have HTS : Hid (∀ (A : Nat) (sv ev : Value) (W : World), W.ownsRow A 76 2 sv (upP (Bu.parse (lst text)).sts).length (prI (upP (Bu.parse (lst text)).sts)) → Rd W (upI (Bu.parse (lst text)).eds).length ev (inI (upI (Bu.parse (lst text)).eds)) → Calls Tryz.prog 11 #[bunV (ofL (Bu.parse (lst text)).im) (ofL (Bu.parse (lst text)).inp) ((Bu.parse (lst text)).fu : Nat) ((Bu.parse (lst text)).de : Nat) ((Bu.parse (lst text)).kd : Nat) sv ev] W fun e w' => e = .returned (.bool (!told (Bu.parse (lst text)))) ∧ Below W.heap.size W w') := by
        intro A sv ev W h1 h2
        have := stale_bun (ofL (Bu.parse (lst text)).im) (ofL (Bu.parse (lst text)).inp) ((Bu.parse (lst text)).fu : Nat) ((Bu.parse (lst text)).de : Nat) ((Bu.parse (lst text)).kd : Nat) A sv ev (upP (Bu.parse (lst text)).sts) (upI (Bu.parse (lst text)).eds) W hokt.1 h1 h2
        rw [bnOf_self _ y1 y2] at this
        exact this
      have hsl := (okB_parts HOKN.out).1.2.2.2.2.2.2.2.2
      have hel := edsOk_len _ (-1) (by omega) (by omega) (okB_parts HOKN.out).2.2
      have hde := (okB_parts HOKN.out).1.2.2.2.2.1
      generalize Bu.parse (lst text) = P at *
      have hb3 : (upP P.sts).length ≤ 8796093022000 := by omega
      have hb4 : (upI P.eds).length ≤ 17592186043904 := by omega
      obtain ⟨qa, ca, hva, -⟩ := owns_shape hs3
      obtain ⟨qb, cb, hvb, -⟩ := owns_shape he3
      subst hva hvb
      have HS3 : Hid (Rd u1 (upP P.sts).length (.slice qa P.sts.length ca) (prI (upP P.sts))) := by rw [upP_len, ← prI_prs]; exact rd_owns hs3
      have HE3 : Hid (Rd u1 (upI P.eds).length (.slice qb P.eds.length cb) (inI (upI P.eds))) := by rw [upI_len, ← inI_ints]; exact rd_owns he3
      have HK3 : Hid (∀ W, Below (u1.alloc (.cells #[.string (ofL P.im), .int .i64 (P.fu : Nat), .int .i64 (P.de : Nat), .string (ofL P.inp), .int .i64 (P.kd : Nat), .slice qa P.sts.length ca, .slice qb P.eds.length cb] 25)).heap.size (u1.alloc (.cells #[.string (ofL P.im), .int .i64 (P.fu : Nat), .int .i64 (P.de : Nat), .string (ofL P.inp), .int .i64 (P.kd : Nat), .slice qa P.sts.length ca, .slice qb P.eds.length cb] 25)) W → W.heap[u1.heap.size]? = some (.cells #[.string (ofL P.im), .int .i64 (P.fu : Nat), .int .i64 (P.de : Nat), .string (ofL P.inp), .int .i64 (P.kd : Nat), .slice qa P.sts.length ca, .slice qb P.eds.length cb] 25)) := fun W hW => (hW.block u1.heap.size (by simp)).trans (hp_new _ _)
      obtain ⟨rp, HRP⟩ := nm (replP text)
      rw [HBV.out]
      clear hokt hs3 he3 y1 y2 hsl hel hde
      go_wp2_with fail
      refine (replay_any text _ ((HG.out.below HU1.out).below ((Below.refl _ _).alloc (Nat.le_refl _) _)) hmt).mono ?_
      rintro e u2 ⟨rfl, hbu2⟩
      rw [HRP.out] at HRT
      rw [HRP.out]
      have hk2 := HK3.out u2 hbu2
      have hbu2' : Below u1.heap.size u1 u2 := below_new hbu2
      have HU2 : Hid (Below w.heap.size w u2) := HU1.out.trans (hbu2'.mono HU1.out.size)
      have HS4 : Hid (Rd u2 (upP P.sts).length (.slice qa P.sts.length ca) (prI (upP P.sts))) := HS3.out.below hbu2'
      have HE4 : Hid (Rd u2 (upI P.eds).length (.slice qb P.eds.length cb) (inI (upI P.eds))) := HE3.out.below hbu2'
      obtain ⟨k0, k1, k2, k3, k4, k5, k6⟩ := z7_of hk2
      clear hbu2 hbu2' hk2
      go_wp2_with (go_at_call 9; refine (num_any _ _).mono ?_; rintro e w' ⟨rfl, rfl⟩)
      rw [← HBV.out]
      refine (plain_any (ofL P.im) (ofL P.inp) (P.fu : Nat) (P.de : Nat) (P.kd : Nat) _ _ (upP P.sts) (upI P.eds) _ hb3 hb4 HS4.out HE4.out).mono ?_
      rintro e u3 ⟨sv5, ev5, rfl, hs5, he5, hbu3⟩
      have HU3 : Hid (Below w.heap.size w u3) := HU2.out.trans (hbu3.mono HU2.out.size)
      obtain ⟨qc, cc, hvc, -⟩ := owns_shape hs5
      obtain ⟨qd, cd, hvd, -⟩ := owns_shape he5
      subst hvc hvd
      have HS5 : Hid (u3.ownsRow u2.heap.size 76 2 (.slice qc (upP P.sts).length cc) (upP P.sts).length (prI (upP P.sts))) := hs5
      have HE5 : Hid (Rd u3 (upI P.eds).length (.slice qd (upI P.eds).length cd) (inI (upI P.eds))) := rd_owns he5
      clear hs5 he5 hbu3 k0 k1 k2 k3 k4 k5 k6
      rw [HBV.out]
      go_wp2_with fail
      rw [← HBV.out]
      refine (HTS.out _ _ _ _ HS5.out HE5.out).mono ?_
      rintro e u4 ⟨rfl, hbu4⟩
      have HU4 : Hid (Below w.heap.size w u4) := HU3.out.trans (hbu4.mono HU3.out.size)
      clear hbu4
      rw [HBV.out]
      generalize told P = D at *
      cases D with
      | true =>
        obtain rfl : rp = 0 := HRT.out
        go_wp2_with (go_at_call 9; refine (num_any _ _).mono ?_; rintro e w' ⟨rfl, rfl⟩)
        go_ret
        exact ⟨by first | done | rfl | simp, HU4.out⟩
      | false =>
        obtain rfl : rp = 9 := HRT.out
        go_wp2_with (go_at_call 9; refine (num_any _ _).mono ?_; rintro e w' ⟨rfl, rfl⟩)
        go_ret
        exact ⟨by first | done | rfl | simp, HU4.out⟩
    · have HRT : Hid (replP text = 8) := by
        show replP text = _
        unfold replP
        rw [if_neg hnot]
      clear hnot
      unfold zeroV
      go_wp2_with fail
      refine (replay_any text _ ((HG.out.below HU1.out).below ((Below.refl _ _).alloc (Nat.le_refl _) _)) hmt).mono ?_
      rintro e u2 ⟨rfl, hbu2⟩
      have HU2 : Hid (Below w.heap.size w u2) := HU1.out.trans ((below_new hbu2).mono HU1.out.size)
      rw [HRT.out]
      clear hbu2
      go_wp2_with (go_at_call 9; refine (num_any _ _).mono ?_; rintro e w' ⟨rfl, rfl⟩)
      go_ret
      exact ⟨by first | done | rfl | simp, HU2.out⟩
  · go_wp2_with fail
    rw [← HBV.out]
    refine (HPL.out _ HB1.out).mono ?_
    rintro e w2 ⟨sv1, ev1, rfl, h1, h2, hbB⟩
    obtain ⟨q1, c1, hv1, -⟩ := owns_shape h1
    obtain ⟨q2, c2, hv2, -⟩ := owns_shape h2
    subst hv1 hv2
    have HB2 : Hid (Below w.heap.size w w2) := HB1.out.trans (hbB.mono HB1.out.size)
    have HO1 : Hid (w2.ownsRow w1.heap.size 76 2 (.slice q1 ns c1) sts.length (prI sts)) := by rw [← HNS.out]; exact h1
    have HS1 : Hid (Rd w2 ns (.slice q1 ns c1) (prI sts)) := by have := rd_owns h1; rw [HNS.out] at this; exact this
    have HE1 : Hid (Rd w2 ne (.slice q2 ne c2) (inI eds)) := by have := rd_owns h2; rw [HNE.out] at this; exact this
    rw [HNS.out, HNE.out, HBV.out]
    clear h1 h2 hbB x0 x1 x2 x3 x4 x5 x6
    go_wp2_with fail
    rw [← HBV.out]
    refine (good_bun im inp fu de kd _ _ sts eds _ hm (by rw [HNS.out]; exact HS1.out.alloc _) (by rw [HNE.out]; exact HE1.out.alloc _)).mono ?_
    rintro e w3 ⟨rfl, hbC⟩
    have HB23 : Hid (Below w2.heap.size w2 w3) := below_new hbC
    have HB3 : Hid (Below w.heap.size w w3) := HB2.out.trans (HB23.out.mono HB2.out.size)
    have hok : okB im inp fu de kd sts eds = true := by rw [HQ.out, hq]
    have hsm := small_of hok
    have hby1 : Bu.Byt (bnOf im inp fu de kd sts eds).im := byt_lst im
    have hby2 : Bu.Byt (bnOf im inp fu de kd sts eds).inp := byt_lst inp
    have hbt := Bu.byt_text _ hby1 hby2
    have HRP1 : Hid (replP (ofL (Bu.text (bnOf im inp fu de kd sts eds))) = if told (bnOf im inp fu de kd sts eds) = true then 0 else 9) := by
      show replP _ = _
      unfold replP
      rw [lst_ofL hbt, Bu.parse_text _ hsm, if_pos ⟨okN_of hok, rfl⟩]
    have hmT : (ofL (Bu.text (bnOf im inp fu de kd sts eds))).size ≤ maxLen := by
      refine mem_sz ?_
      rw [text_len]
      have := hsm.im
      have := hsm.inp
      have := hsm.sl
      have := hsm.el
      omega
    have HST1 : Hid (∀ W, Below w2.heap.size w2 W → Calls Tryz.prog 11 #[bunV im inp fu de kd (.slice q1 ns c1) (.slice q2 ne c2)] W fun e w' => e = .returned (.bool (!told (bnOf im inp fu de kd sts eds))) ∧ Below W.heap.size W w') := fun W hW => stale_bun im inp fu de kd w1.heap.size _ _ sts eds W hok (World.ownsRow.kept (row := none) HO1.out ⟨hW.os, hW.tape, hW.output, hW.size, fun k hk _ => hW.block k hk⟩ (by rcases hx : (Value.slice q1 ns c1).ownBlock with _ | x; exact Or.inl rfl; exact Or.inr (by simp))) (by rw [HNE.out]; exact HE1.out.below hW)
    rw [HQ.out, hq, HBV.out]
    have HPB : Hid (w3.heap[w2.heap.size]? = some (.cells #[.string im, .int .i64 fu, .int .i64 de, .string inp, .int .i64 kd, .slice q1 ns c1, .slice q2 ne c2] 31)) := (hbC.block w2.heap.size (by simp)).trans (hp_new _ _)
    have HS23 : Hid (w2.heap.size < w3.heap.size) := by have := hbC.size; simp at this; exact this
    clear hbC hok hsm hby1 hby2 hbt
    generalize bnOf im inp fu de kd sts eds = N at *
    obtain ⟨T, HT⟩ := nm (ofL (Bu.text N))
    rw [HT.out] at HRP1 hmT
    rw [HT.out]
    obtain ⟨rq, HRQ⟩ := nm (replP T)
    rw [HRQ.out] at HRP1
    have hs23 : w2.heap.size < w3.heap.size := HS23.out
    go_wp2_with (go_at_call 9; refine (num_any _ _).mono ?_; rintro e w' ⟨rfl, rfl⟩)
    refine (replay_any T _ (HG.out.below HB3.out) hmT).mono ?_
    rintro e w4 ⟨rfl, hbD⟩
    rw [HRQ.out]
    have HB24 : Hid (Below w2.heap.size w2 w4) := HB23.out.trans (hbD.mono HB23.out.size)
    have HB4 : Hid (Below w.heap.size w w4) := HB3.out.trans (hbD.mono HB3.out.size)
    obtain ⟨p0, p1, p2, p3, p4, p5, p6⟩ := z7_of ((hbD.block w2.heap.size hs23).trans HPB.out)
    clear hbD
    go_wp2_with fail
    rw [← HBV.out]
    refine (HST1.out _ HB24.out).mono ?_
    rintro e w5 ⟨rfl, hbE⟩
    have HB5 : Hid (Below w.heap.size w w5) := HB4.out.trans (hbE.mono HB4.out.size)
    clear hbE p0 p1 p2 p3 p4 p5 p6
    rw [HBV.out]
    generalize told N = D at *
    cases D with
    | true =>
      obtain rfl : rq = 0 := HRP1.out
      go_wp2_with (go_at_call 9; refine (num_any _ _).mono ?_; rintro e w' ⟨rfl, rfl⟩)
      refine (unpack_any text _ (HG.out.below HB5.out) hmt).mono ?_
      rintro e u1 ⟨hbu1, hpu⟩
      have HU1 : Hid (Below w.heap.size w u1) := HB5.out.trans (hbu1.mono HB5.out.size)
      clear hbu1
      rcases hpu with ⟨hokt, sv3, ev3, rfl, hs3, he3⟩ | ⟨hnot, rfl⟩
      · have HRT : Hid (replP text = if told (Bu.parse (lst text)) = true then 0 else 9) := by
          show replP text = _
          unfold replP
          rw [if_pos hokt]
        have HOKN : Hid (okN (Bu.parse (lst text)) = true) := hokt.1
        obtain ⟨y1, y2⟩ := parse_byt (byt_lst text)
        have HTS : Hid (∀ (A : Nat) (sv ev : Value) (W : World), W.ownsRow A 76 2 sv (upP (Bu.parse (lst text)).sts).length (prI (upP (Bu.parse (lst text)).sts)) → Rd W (upI (Bu.parse (lst text)).eds).length ev (inI (upI (Bu.parse (lst text)).eds)) → Calls Tryz.prog 11 #[bunV (ofL (Bu.parse (lst text)).im) (ofL (Bu.parse (lst text)).inp) ((Bu.parse (lst text)).fu : Nat) ((Bu.parse (lst text)).de : Nat) ((Bu.parse (lst text)).kd : Nat) sv ev] W fun e w' => e = .returned (.bool (!told (Bu.parse (lst text)))) ∧ Below W.heap.size W w') := by
          intro A sv ev W h1 h2
          have := stale_bun (ofL (Bu.parse (lst text)).im) (ofL (Bu.parse (lst text)).inp) ((Bu.parse (lst text)).fu : Nat) ((Bu.parse (lst text)).de : Nat) ((Bu.parse (lst text)).kd : Nat) A sv ev (upP (Bu.parse (lst text)).sts) (upI (Bu.parse (lst text)).eds) W hokt.1 h1 h2
          rw [bnOf_self _ y1 y2] at this
          exact this
        have hsl := (okB_parts HOKN.out).1.2.2.2.2.2.2.2.2
        have hel := edsOk_len _ (-1) (by omega) (by omega) (okB_parts HOKN.out).2.2
        have hde := (okB_parts HOKN.out).1.2.2.2.2.1
        generalize Bu.parse (lst text) = P at *
        have hb3 : (upP P.sts).length ≤ 8796093022000 := by omega
        have hb4 : (upI P.eds).length ≤ 17592186043904 := by omega
        obtain ⟨qa, ca, hva, -⟩ := owns_shape hs3
        obtain ⟨qb, cb, hvb, -⟩ := owns_shape he3
        subst hva hvb
        have HS3 : Hid (Rd u1 (upP P.sts).length (.slice qa P.sts.length ca) (prI (upP P.sts))) := by rw [upP_len, ← prI_prs]; exact rd_owns hs3
        have HE3 : Hid (Rd u1 (upI P.eds).length (.slice qb P.eds.length cb) (inI (upI P.eds))) := by rw [upI_len, ← inI_ints]; exact rd_owns he3
        have HK3 : Hid (∀ W, Below (u1.alloc (.cells #[.string (ofL P.im), .int .i64 (P.fu : Nat), .int .i64 (P.de : Nat), .string (ofL P.inp), .int .i64 (P.kd : Nat), .slice qa P.sts.length ca, .slice qb P.eds.length cb] 25)).heap.size (u1.alloc (.cells #[.string (ofL P.im), .int .i64 (P.fu : Nat), .int .i64 (P.de : Nat), .string (ofL P.inp), .int .i64 (P.kd : Nat), .slice qa P.sts.length ca, .slice qb P.eds.length cb] 25)) W → W.heap[u1.heap.size]? = some (.cells #[.string (ofL P.im), .int .i64 (P.fu : Nat), .int .i64 (P.de : Nat), .string (ofL P.inp), .int .i64 (P.kd : Nat), .slice qa P.sts.length ca, .slice qb P.eds.length cb] 25)) := fun W hW => (hW.block u1.heap.size (by simp)).trans (hp_new _ _)
        obtain ⟨rp, HRP⟩ := nm (replP text)
        rw [HBV.out]
        clear hokt hs3 he3 y1 y2 hsl hel hde
        go_wp2_with fail
        refine (replay_any text _ ((HG.out.below HU1.out).below ((Below.refl _ _).alloc (Nat.le_refl _) _)) hmt).mono ?_
        rintro e u2 ⟨rfl, hbu2⟩
        rw [HRP.out] at HRT
        rw [HRP.out]
        have hk2 := HK3.out u2 hbu2
        have hbu2' : Below u1.heap.size u1 u2 := below_new hbu2
        have HU2 : Hid (Below w.heap.size w u2) := HU1.out.trans (hbu2'.mono HU1.out.size)
        have HS4 : Hid (Rd u2 (upP P.sts).length (.slice qa P.sts.length ca) (prI (upP P.sts))) := HS3.out.below hbu2'
        have HE4 : Hid (Rd u2 (upI P.eds).length (.slice qb P.eds.length cb) (inI (upI P.eds))) := HE3.out.below hbu2'
        obtain ⟨k0, k1, k2, k3, k4, k5, k6⟩ := z7_of hk2
        clear hbu2 hbu2' hk2
        go_wp2_with (go_at_call 9; refine (num_any _ _).mono ?_; rintro e w' ⟨rfl, rfl⟩)
        rw [← HBV.out]
        refine (plain_any (ofL P.im) (ofL P.inp) (P.fu : Nat) (P.de : Nat) (P.kd : Nat) _ _ (upP P.sts) (upI P.eds) _ hb3 hb4 HS4.out HE4.out).mono ?_
        rintro e u3 ⟨sv5, ev5, rfl, hs5, he5, hbu3⟩
        have HU3 : Hid (Below w.heap.size w u3) := HU2.out.trans (hbu3.mono HU2.out.size)
        obtain ⟨qc, cc, hvc, -⟩ := owns_shape hs5
        obtain ⟨qd, cd, hvd, -⟩ := owns_shape he5
        subst hvc hvd
        have HS5 : Hid (u3.ownsRow u2.heap.size 76 2 (.slice qc (upP P.sts).length cc) (upP P.sts).length (prI (upP P.sts))) := hs5
        have HE5 : Hid (Rd u3 (upI P.eds).length (.slice qd (upI P.eds).length cd) (inI (upI P.eds))) := rd_owns he5
        clear hs5 he5 hbu3 k0 k1 k2 k3 k4 k5 k6
        rw [HBV.out]
        go_wp2_with fail
        rw [← HBV.out]
        refine (HTS.out _ _ _ _ HS5.out HE5.out).mono ?_
        rintro e u4 ⟨rfl, hbu4⟩
        have HU4 : Hid (Below w.heap.size w u4) := HU3.out.trans (hbu4.mono HU3.out.size)
        clear hbu4
        rw [HBV.out]
        generalize told P = D at *
        cases D with
        | true =>
          obtain rfl : rp = 0 := HRT.out
          go_wp2_with (go_at_call 9; refine (num_any _ _).mono ?_; rintro e w' ⟨rfl, rfl⟩)
          go_ret
          exact ⟨by first | done | rfl | simp, HU4.out⟩
        | false =>
          obtain rfl : rp = 9 := HRT.out
          go_wp2_with (go_at_call 9; refine (num_any _ _).mono ?_; rintro e w' ⟨rfl, rfl⟩)
          go_ret
          exact ⟨by first | done | rfl | simp, HU4.out⟩
      · have HRT : Hid (replP text = 8) := by
          show replP text = _
          unfold replP
          rw [if_neg hnot]
        clear hnot
        unfold zeroV
        go_wp2_with fail
        refine (replay_any text _ ((HG.out.below HU1.out).below ((Below.refl _ _).alloc (Nat.le_refl _) _)) hmt).mono ?_
        rintro e u2 ⟨rfl, hbu2⟩
        have HU2 : Hid (Below w.heap.size w u2) := HU1.out.trans ((below_new hbu2).mono HU1.out.size)
        rw [HRT.out]
        clear hbu2
        go_wp2_with (go_at_call 9; refine (num_any _ _).mono ?_; rintro e w' ⟨rfl, rfl⟩)
        go_ret
        exact ⟨by first | done | rfl | simp, HU2.out⟩
    | false =>
      obtain rfl : rq = 9 := HRP1.out
      go_wp2_with (go_at_call 9; refine (num_any _ _).mono ?_; rintro e w' ⟨rfl, rfl⟩)
      refine (unpack_any text _ (HG.out.below HB5.out) hmt).mono ?_
      rintro e u1 ⟨hbu1, hpu⟩
      have HU1 : Hid (Below w.heap.size w u1) := HB5.out.trans (hbu1.mono HB5.out.size)
      clear hbu1
      rcases hpu with ⟨hokt, sv3, ev3, rfl, hs3, he3⟩ | ⟨hnot, rfl⟩
      · have HRT : Hid (replP text = if told (Bu.parse (lst text)) = true then 0 else 9) := by
          show replP text = _
          unfold replP
          rw [if_pos hokt]
        have HOKN : Hid (okN (Bu.parse (lst text)) = true) := hokt.1
        obtain ⟨y1, y2⟩ := parse_byt (byt_lst text)
        have HTS : Hid (∀ (A : Nat) (sv ev : Value) (W : World), W.ownsRow A 76 2 sv (upP (Bu.parse (lst text)).sts).length (prI (upP (Bu.parse (lst text)).sts)) → Rd W (upI (Bu.parse (lst text)).eds).length ev (inI (upI (Bu.parse (lst text)).eds)) → Calls Tryz.prog 11 #[bunV (ofL (Bu.parse (lst text)).im) (ofL (Bu.parse (lst text)).inp) ((Bu.parse (lst text)).fu : Nat) ((Bu.parse (lst text)).de : Nat) ((Bu.parse (lst text)).kd : Nat) sv ev] W fun e w' => e = .returned (.bool (!told (Bu.parse (lst text)))) ∧ Below W.heap.size W w') := by
          intro A sv ev W h1 h2
          have := stale_bun (ofL (Bu.parse (lst text)).im) (ofL (Bu.parse (lst text)).inp) ((Bu.parse (lst text)).fu : Nat) ((Bu.parse (lst text)).de : Nat) ((Bu.parse (lst text)).kd : Nat) A sv ev (upP (Bu.parse (lst text)).sts) (upI (Bu.parse (lst text)).eds) W hokt.1 h1 h2
          rw [bnOf_self _ y1 y2] at this
          exact this
        have hsl := (okB_parts HOKN.out).1.2.2.2.2.2.2.2.2
        have hel := edsOk_len _ (-1) (by omega) (by omega) (okB_parts HOKN.out).2.2
        have hde := (okB_parts HOKN.out).1.2.2.2.2.1
        generalize Bu.parse (lst text) = P at *
        have hb3 : (upP P.sts).length ≤ 8796093022000 := by omega
        have hb4 : (upI P.eds).length ≤ 17592186043904 := by omega
        obtain ⟨qa, ca, hva, -⟩ := owns_shape hs3
        obtain ⟨qb, cb, hvb, -⟩ := owns_shape he3
        subst hva hvb
        have HS3 : Hid (Rd u1 (upP P.sts).length (.slice qa P.sts.length ca) (prI (upP P.sts))) := by rw [upP_len, ← prI_prs]; exact rd_owns hs3
        have HE3 : Hid (Rd u1 (upI P.eds).length (.slice qb P.eds.length cb) (inI (upI P.eds))) := by rw [upI_len, ← inI_ints]; exact rd_owns he3
        have HK3 : Hid (∀ W, Below (u1.alloc (.cells #[.string (ofL P.im), .int .i64 (P.fu : Nat), .int .i64 (P.de : Nat), .string (ofL P.inp), .int .i64 (P.kd : Nat), .slice qa P.sts.length ca, .slice qb P.eds.length cb] 25)).heap.size (u1.alloc (.cells #[.string (ofL P.im), .int .i64 (P.fu : Nat), .int .i64 (P.de : Nat), .string (ofL P.inp), .int .i64 (P.kd : Nat), .slice qa P.sts.length ca, .slice qb P.eds.length cb] 25)) W → W.heap[u1.heap.size]? = some (.cells #[.string (ofL P.im), .int .i64 (P.fu : Nat), .int .i64 (P.de : Nat), .string (ofL P.inp), .int .i64 (P.kd : Nat), .slice qa P.sts.length ca, .slice qb P.eds.length cb] 25)) := fun W hW => (hW.block u1.heap.size (by simp)).trans (hp_new _ _)
        obtain ⟨rp, HRP⟩ := nm (replP text)
        rw [HBV.out]
        clear hokt hs3 he3 y1 y2 hsl hel hde
        go_wp2_with fail
        refine (replay_any text _ ((HG.out.below HU1.out).below ((Below.refl _ _).alloc (Nat.le_refl _) _)) hmt).mono ?_
        rintro e u2 ⟨rfl, hbu2⟩
        rw [HRP.out] at HRT
        rw [HRP.out]
        have hk2 := HK3.out u2 hbu2
        have hbu2' : Below u1.heap.size u1 u2 := below_new hbu2
        have HU2 : Hid (Below w.heap.size w u2) := HU1.out.trans (hbu2'.mono HU1.out.size)
        have HS4 : Hid (Rd u2 (upP P.sts).length (.slice qa P.sts.length ca) (prI (upP P.sts))) := HS3.out.below hbu2'
        have HE4 : Hid (Rd u2 (upI P.eds).length (.slice qb P.eds.length cb) (inI (upI P.eds))) := HE3.out.below hbu2'
        obtain ⟨k0, k1, k2, k3, k4, k5, k6⟩ := z7_of hk2
        clear hbu2 hbu2' hk2
        go_wp2_with (go_at_call 9; refine (num_any _ _).mono ?_; rintro e w' ⟨rfl, rfl⟩)
        rw [← HBV.out]
        refine (plain_any (ofL P.im) (ofL P.inp) (P.fu : Nat) (P.de : Nat) (P.kd : Nat) _ _ (upP P.sts) (upI P.eds) _ hb3 hb4 HS4.out HE4.out).mono ?_
        rintro e u3 ⟨sv5, ev5, rfl, hs5, he5, hbu3⟩
        have HU3 : Hid (Below w.heap.size w u3) := HU2.out.trans (hbu3.mono HU2.out.size)
        obtain ⟨qc, cc, hvc, -⟩ := owns_shape hs5
        obtain ⟨qd, cd, hvd, -⟩ := owns_shape he5
        subst hvc hvd
        have HS5 : Hid (u3.ownsRow u2.heap.size 76 2 (.slice qc (upP P.sts).length cc) (upP P.sts).length (prI (upP P.sts))) := hs5
        have HE5 : Hid (Rd u3 (upI P.eds).length (.slice qd (upI P.eds).length cd) (inI (upI P.eds))) := rd_owns he5
        clear hs5 he5 hbu3 k0 k1 k2 k3 k4 k5 k6
        rw [HBV.out]
        go_wp2_with fail
        rw [← HBV.out]
        refine (HTS.out _ _ _ _ HS5.out HE5.out).mono ?_
        rintro e u4 ⟨rfl, hbu4⟩
        have HU4 : Hid (Below w.heap.size w u4) := HU3.out.trans (hbu4.mono HU3.out.size)
        clear hbu4
        rw [HBV.out]
        generalize told P = D at *
        cases D with
        | true =>
          obtain rfl : rp = 0 := HRT.out
          go_wp2_with (go_at_call 9; refine (num_any _ _).mono ?_; rintro e w' ⟨rfl, rfl⟩)
          go_ret
          exact ⟨by first | done | rfl | simp, HU4.out⟩
        | false =>
          obtain rfl : rp = 9 := HRT.out
          go_wp2_with (go_at_call 9; refine (num_any _ _).mono ?_; rintro e w' ⟨rfl, rfl⟩)
          go_ret
          exact ⟨by first | done | rfl | simp, HU4.out⟩
      · have HRT : Hid (replP text = 8) := by
          show replP text = _
          unfold replP
          rw [if_neg hnot]
        clear hnot
        unfold zeroV
        go_wp2_with fail
        refine (replay_any text _ ((HG.out.below HU1.out).below ((Below.refl _ _).alloc (Nat.le_refl _) _)) hmt).mono ?_
        rintro e u2 ⟨rfl, hbu2⟩
        have HU2 : Hid (Below w.heap.size w u2) := HU1.out.trans ((below_new hbu2).mono HU1.out.size)
        rw [HRT.out]
        clear hbu2
        go_wp2_with (go_at_call 9; refine (num_any _ _).mono ?_; rintro e w' ⟨rfl, rfl⟩)
        go_ret
        exact ⟨by first | done | rfl | simp, HU2.out⟩
end Go.Proofs.YtbmaiioecnmopabGreatDoor
