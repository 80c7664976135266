/-
  BuD, BuE, BuF, BuG, BuH, BuI: THESE TEXTS, JOINED. By the verifier of the loop 'triage'.
-/
import Derived.Test.YtbmaiioecnmopabGreatDoorJ36
import Derived.Deep.RegionHeld3
/-
  BUNDLES, THE PROGRAM's SIDE (package triage): addText; numbers that are written out. By the verifier of the loop 'triage'.
-/
namespace Go.Proofs.YtbmaiioecnmopabGreatDoor
open Go.RowKit

theorem below_row {w w' : World} {A : Nat} {e : TypeId} {size n : Nat} {v : Value} {xs : List Value} (h : w.ownsRow A e size v n xs) (hg : w.grownBy w' v.ownBlock) (hA : A ≤ w.heap.size) : Below A w w' :=
  ⟨hg.os, hg.tape, hg.output, hg.size, fun k hk => hg.block k (by omega) (by intro e; have := (h.lt k e.symm).1; omega)⟩
/-- how a row of bytes is when something was written to it. -/
def Wrote (A : Nat) (v : Value) (l : List Nat) (w w' : World) : Prop := w'.ownsRow A 5 1 v l.length (bys l) ∧ Below A w w'
theorem addNumbers_to (A : Nat) (tv nv : Value) (t l : List Nat) (w : World) (hA : A ≤ w.heap.size) (hb : t.length + 2 * l.length ≤ 100000000) (ht : w.ownsRow A 5 1 tv t.length (bys t)) (hl : Rd w l.length nv (ints l))
    (hne : ∀ k o cap, 0 < l.length → nv = .slice (some ⟨k, o, none⟩) l.length cap → tv.ownBlock ≠ some k) :
    Calls Tryz.prog 53 #[tv, nv] w fun e w' => ∃ v, e = .returned v ∧ Wrote A v (t ++ Bu.twos l) w w' :=
  (addNumbers_any A tv nv t l w hA hb ht hl hne).mono fun _ _ ⟨v, he, h1, h2, _⟩ => ⟨v, he, h1, below_row ht h2 hA⟩
theorem strCells_lst (s : ByteArray) : Lib.strCells s = bys (lst s) := by simp [Lib.strCells, bys, lst]
/-- numbers that were just laid, to be added. -/
theorem rd_new (w : World) (t : TypeId) (l : List Nat) (n : Nat) (cs : Array Value) (hn : l.length = n) (hc : cs.toList = ints l) (hm : n ≤ 100) : Rd (w.alloc (.cells cs t)) n (.slice (some ⟨w.heap.size, 0, none⟩) n n) (ints l) := by
  refine ⟨_, n, rfl, Nat.le_refl _, by unfold maxLen; omega, fun _ => ⟨w.heap.size, 0, rfl, by simp, ?_⟩⟩
  intro i u hi
  rw [Nat.zero_add, World.cell?_alloc_mark, ← Array.getElem?_toList, hc]
  exact hi
theorem ne_new {w : World} {A : Nat} {e : TypeId} {size n : Nat} {v : Value} {xs : List Value} (h : w.ownsRow A e size v n xs) (m c : Nat) {q : Prop} : ∀ k o cap, q → Value.slice (some ⟨w.heap.size, 0, none⟩) m c = .slice (some ⟨k, o, none⟩) m cap → v.ownBlock ≠ some k := by
  intro k o cap _ e hk
  cases e
  have := (h.lt _ hk).2
  omega

set_option maxHeartbeats 1600000 in
set_option maxRecDepth 100000 in
theorem addText_any (A : Nat) (tv : Value) (t : List Nat) (s : ByteArray) (w : World) (hA : A ≤ w.heap.size) (hb : t.length + s.size ≤ 10000000) (ht : w.ownsRow A 5 1 tv t.length (bys t)) :
    Calls Tryz.prog 54 #[tv, .string s] w fun e w' => ∃ v, e = .returned v ∧ Wrote A v (t ++ Bu.txt (lst s)) w w' := by
  obtain ⟨i0, hi, hz0, hz1, hz2⟩ := info_parts Tryz.infoByteB
  obtain ⟨a0, c0, hv0, -, -, -⟩ := owns_shape ht
  subst hv0
  have HT : Hid (w.ownsRow A 5 1 (.slice a0 t.length c0) t.length (bys t)) := ht
  clear ht
  go_enter Tryz.func54, Tryz.ntmps54
  go_wp2_with fail
  refine (addNumbers_to A _ _ t [s.size] _ (by simp; omega) (by simp; omega) (HT.out.alloc _) (rd_new _ _ [s.size] 1 _ rfl rfl (by omega)) (ne_new HT.out 1 1)).mono ?_
  rintro e w1 ⟨v1, rfl, h1, hb1⟩
  obtain ⟨a1, c1, hv1, -, -, -⟩ := owns_shape h1
  subst hv1
  have HB : Hid (Below A w w1) := ((Below.refl A w).alloc hA _).trans hb1
  have hs1 : A ≤ w1.heap.size := Nat.le_trans hA HB.out.size
  have H1 : Hid (w1.ownsRow A 5 1 (.slice a1 (t ++ Bu.twos [s.size]).length c1) (t ++ Bu.twos [s.size]).length (bys (t ++ Bu.twos [s.size]))) := h1
  have HL : Hid ((t ++ Bu.twos [s.size]).length = t.length + 2) := by
    show (t ++ Bu.twos [s.size]).length = t.length + 2
    rw [List.length_append, Bu.twos_len]; rfl
  have HX : Hid (t ++ Bu.txt (lst s) = (t ++ Bu.twos [s.size]) ++ lst s) := by
    show t ++ Bu.txt (lst s) = (t ++ Bu.twos [s.size]) ++ lst s
    unfold Bu.txt Bu.twos
    rw [lst_len]
    simp
  generalize t ++ Bu.twos [s.size] = R at *
  clear h1 hb1
  go_wp2_with (at_builtin; (refine Lib.wpList_append_own_string _ rfl _ _ 121 9 rfl A 5 i0 Tryz.undBytesB Tryz.underlying9 hi hz0 hz1 hz2 _ _ _ rfl H1.out s rfl ?c1 ?c2 ?c3 ?_))
  case c1 => have := HL.out; unfold maxLen; omega
  case c2 => have := HL.out; omega
  case c3 => exact hs1
  intro v2 w2 h2 hg2 _
  have HW : Hid (Wrote A v2 (t ++ Bu.txt (lst s)) w w2) := by
    refine ⟨?_, HB.out.trans (below_row H1.out hg2 hs1)⟩
    rw [HX.out, List.length_append, bys_app, lst_len, ← strCells_lst]
    exact h2
  clear h2 hg2
  go_wp2
  go_ret
  exact ⟨_, rfl, HW.out⟩
end Go.Proofs.YtbmaiioecnmopabGreatDoor

/-
  BUNDLES, THE PROGRAM's SIDE (package triage): write. By the verifier of the loop 'triage'.
-/
namespace Go.Proofs.YtbmaiioecnmopabGreatDoor
open Go.RowKit

/-- a text of bytes. -/
def ofL (l : List Nat) : ByteArray := ⟨(l.map UInt8.ofNat).toArray⟩
theorem lst_ofL {l : List Nat} (h : Bu.Byt l) : lst (ofL l) = l := by
  unfold lst ofL
  simp only [List.map_map]
  conv => rhs; rw [← List.map_id l]
  apply List.map_congr_left
  intro b hb
  have := h b hb
  simp; omega
theorem ofL_lst (s : ByteArray) : ofL (lst s) = s := by
  unfold lst ofL
  cases s
  simp only [List.map_map]
  rw [show ((UInt8.ofNat ∘ fun b : UInt8 => b.toNat)) = id from by funext b; simp]
  simp
/-- a bundle, as a value. -/
def bunV (im inp : ByteArray) (fu de kd : Int) (sv ev : Value) : Value := .agg #[.string im, .int .i64 fu, .int .i64 de, .string inp, .int .i64 kd, sv, ev]

theorem rd_at (w : World) (t : TypeId) (l : List Nat) (n b : Nat) (cs : Array Value) (hb : w.heap.size = b) (hn : l.length = n) (hc : cs.toList = ints l) (hm : n ≤ 100) : Rd (w.alloc (.cells cs t)) n (.slice (some ⟨b, 0, none⟩) n n) (ints l) := by
  subst hb
  exact rd_new w t l n cs hn hc hm
theorem ne_at {w : World} {A : Nat} {e : TypeId} {size n : Nat} {v : Value} {xs : List Value} (h : w.ownsRow A e size v n xs) (m c b : Nat) (hb : w.heap.size ≤ b) {q : Prop} : ∀ k o cap, q → Value.slice (some ⟨b, 0, none⟩) m c = .slice (some ⟨k, o, none⟩) m cap → v.ownBlock ≠ some k := by
  intro k o cap _ e hk
  cases e
  have := (h.lt _ hk).2
  omega
theorem z7_of {w : World} {b : Nat} {v0 v1 v2 v3 v4 v5 v6 : Value} {t : TypeId} (h : w.heap[b]? = some (.cells #[v0, v1, v2, v3, v4, v5, v6] t (0, 0))) : w.cell? ⟨b, 0, none⟩ = some v0 ∧ w.cell? ⟨b, 1, none⟩ = some v1 ∧ w.cell? ⟨b, 2, none⟩ = some v2 ∧ w.cell? ⟨b, 3, none⟩ = some v3 ∧ w.cell? ⟨b, 4, none⟩ = some v4 ∧ w.cell? ⟨b, 5, none⟩ = some v5 ∧ w.cell? ⟨b, 6, none⟩ = some v6 := by
  have e : ∀ o, w.cell? ⟨b, o, none⟩ = #[v0, v1, v2, v3, v4, v5, v6][o]? := fun o => by simp [World.cell?, h]
  exact ⟨e 0, e 1, e 2, e 3, e 4, e 5, e 6⟩
theorem hp_new (w : World) (o : Obj) : (w.alloc o).heap[w.heap.size]? = some o := (MapKept.heap_alloc w o).1

theorem news4 (w : World) (t : TypeId) (x0 x1 x2 x3 : Value) : ∀ j u, [x0, x1, x2, x3][j]? = some u → (w.alloc (.cells #[x0, x1, x2, x3] t)).cell? ((⟨w.heap.size, 0, none⟩ : Addr).add j) = some u := by
  intro j u hj
  rw [addr_add, World.cell?_alloc_mark]
  rw [← Array.getElem?_toList]
  exact hj
theorem nm {α : Type} (x : α) : ∃ y, Hid (x = y) := ⟨x, rfl⟩
theorem flat_snoc (R : List Nat) (l : List (Nat × Nat)) (j : Nat) (h : j < l.length) : R ++ Bu.flat (l.take (j + 1)) = (R ++ Bu.flat (l.take j)) ++ Bu.twos [(l[j]?.getD (0, 0)).1, (l[j]?.getD (0, 0)).2] := by
  rw [List.append_assoc]
  congr 1
  unfold Bu.flat Bu.twos
  rw [List.take_add_one, List.flatMap_append, List.getElem?_eq_getElem h]
  simp
/-- how write stands: its bundle in a block, and what is written so far. -/
structure WSt (w : World) (o : Obj) (R : List Nat) (v : Value) (w' : World) : Prop where
  own : w'.ownsRow (w.heap.size + 1) 5 1 v R.length (bys R)
  bel : Below w.heap.size w w'
  blk : w'.heap[w.heap.size]? = some o
  sz : w.heap.size + 1 ≤ w'.heap.size
theorem WSt.start {w w1 : World} {o p : Obj} {v : Value} {R : List Nat} (h : Wrote (w.heap.size + 1) v R ((w.alloc o).alloc p) w1) : WSt w o R v w1 := by
  have hB1 : Below (w.heap.size + 1) (w.alloc o) w1 := ((Below.refl _ _).alloc (by simp) _).trans h.2
  exact ⟨h.1, ((Below.refl _ _).alloc (Nat.le_refl _) _).trans (hB1.mono (Nat.le_succ _)), (hB1.block w.heap.size (by omega)).trans (hp_new _ _), by have := hB1.size; simp at this; omega⟩
theorem WSt.step {w w1 w2 : World} {o : Obj} {v v2 : Value} {R R2 : List Nat} (h : WSt w o R v w1) (h2 : Wrote (w.heap.size + 1) v2 R2 w1 w2) : WSt w o R2 v2 w2 :=
  ⟨h2.1, h.bel.trans (h2.2.mono (Nat.le_succ _)), (h2.2.block _ (Nat.lt_succ_self _)).trans h.blk, Nat.le_trans h.sz h2.2.size⟩
theorem WSt.alloc {w w1 : World} {o : Obj} {v : Value} {R : List Nat} (h : WSt w o R v w1) (p : Obj) : WSt w o R v (w1.alloc p) :=
  ⟨h.own.alloc _, h.bel.alloc h.bel.size _, (Below.heap_alloc _ _ _ (by have := h.sz; omega)).trans h.blk, by have := h.sz; simp; omega⟩
theorem WSt.drew {w w1 : World} {o : Obj} {v : Value} {R : List Nat} (h : WSt w o R v w1) : WSt w o R v w1.drew := ⟨h.own, ⟨h.bel.os, h.bel.tape, h.bel.output, h.bel.size, h.bel.block⟩, h.blk, h.sz⟩

set_option maxHeartbeats 3200000 in
set_option maxRecDepth 100000 in
theorem write_any (im inp : ByteArray) (fu de kd : Nat) (sv ev : Value) (sts : List (Nat × Nat)) (eds : List Nat) (w : World) (hb : im.size + inp.size + 4 * sts.length + 2 * eds.length ≤ 1000000) (hS : Rd w sts.length sv (prs sts)) (hE : Rd w eds.length ev (ints eds)) :
    Calls Tryz.prog 25 #[bunV im inp fu de kd sv ev] w fun e w' => e = .returned (.string (ofL (Bu.text ⟨fu, de, kd, lst im, lst inp, sts, eds⟩))) ∧ Below w.heap.size w w' := by
  obtain ⟨i0, hi, hz0, hz1, hz2⟩ := info_parts Tryz.infoByteB
  have HS : Hid (Rd w sts.length sv (prs sts)) := hS
  have HE : Hid (Rd w eds.length ev (ints eds)) := hE
  obtain ⟨qs, cs, hvs, -, hcs, hSc⟩ := hS
  obtain ⟨qe, ce, hve, -, -, hEc⟩ := hE
  subst hvs hve
  unfold bunV
  unfold maxLen at hcs
  obtain ⟨ns, HNS⟩ := nm sts.length
  obtain ⟨ne, HNE⟩ := nm eds.length
  rw [HNS.out] at hb hSc HS
  rw [HNE.out] at hb hEc HE
  rw [HNS.out, HNE.out]
  obtain ⟨T, HT⟩ := nm (Bu.text ⟨fu, de, kd, lst im, lst inp, sts, eds⟩)
  rw [HT.out]
  go_enter Tryz.func25, Tryz.ntmps25
  go_wp2_with fail
  refine (addNumbers_to (w.heap.size + 1) _ _ [] [fu, de, kd] _ (by simp) (by simp) (World.ownsRow_nil _ _ _ _) (rd_at _ _ [fu, de, kd] 3 (w.heap.size + 1) _ (by simp) rfl rfl (by omega)) (by intro k o cap _ _ e; cases e)).mono ?_
  rintro e w1 ⟨v1, rfl, h1⟩
  obtain ⟨R1, HR1⟩ := nm ([] ++ Bu.twos [fu, de, kd])
  have HL1 : Hid (R1.length = 6) := by
    show R1.length = 6
    rw [← HR1.out, List.length_append, Bu.twos_len]; rfl
  rw [HR1.out] at h1
  obtain ⟨a1, c1, hv1, -⟩ := owns_shape h1.1
  subst hv1
  have H1 := WSt.start h1
  obtain ⟨x0, x1, x2, x3, x4, x5, x6⟩ := z7_of H1.blk
  have HW1 : Hid (WSt w (.cells #[.string im, .int .i64 fu, .int .i64 de, .string inp, .int .i64 kd, .slice qs ns cs, .slice qe ne ce] 25) R1 (.slice a1 R1.length c1) w1) := H1
  clear h1 H1
  go_wp2_with fail
  refine (addText_any (w.heap.size + 1) _ R1 im _ HW1.out.sz (by have := HL1.out; omega) HW1.out.own).mono ?_
  rintro e w2 ⟨v2, rfl, h2⟩
  obtain ⟨R2, HR2⟩ := nm (R1 ++ Bu.txt (lst im))
  have HL2 : Hid (R2.length = 8 + im.size) := by
    show R2.length = 8 + im.size
    rw [← HR2.out, List.length_append, HL1.out]
    unfold Bu.txt
    rw [List.length_append, Bu.two_len, lst_len]
    omega
  rw [HR2.out] at h2
  have H2 := HW1.out.step h2
  obtain ⟨a2, c2, hv2, -⟩ := owns_shape H2.own
  subst hv2
  clear x0 x1 x2 x3 x4 x5 x6
  obtain ⟨x0, x1, x2, x3, x4, x5, x6⟩ := z7_of H2.blk
  have HW2 : Hid (WSt w (.cells #[.string im, .int .i64 fu, .int .i64 de, .string inp, .int .i64 kd, .slice qs ns cs, .slice qe ne ce] 25) R2 (.slice a2 R2.length c2) w2) := H2
  clear h2 H2
  go_wp2_with fail
  refine (addText_any (w.heap.size + 1) _ R2 inp _ HW2.out.sz (by have := HL2.out; omega) HW2.out.own).mono ?_
  rintro e w3 ⟨v3, rfl, h3⟩
  obtain ⟨R3, HR3⟩ := nm (R2 ++ Bu.txt (lst inp))
  have HL3 : Hid (R3.length = 10 + im.size + inp.size) := by
    show R3.length = 10 + im.size + inp.size
    rw [← HR3.out, List.length_append, HL2.out]
    unfold Bu.txt
    rw [List.length_append, Bu.two_len, lst_len]
    omega
  rw [HR3.out] at h3
  have H3 := HW2.out.step h3
  obtain ⟨a3, c3, hv3, -⟩ := owns_shape H3.own
  subst hv3
  clear x0 x1 x2 x3 x4 x5 x6
  obtain ⟨x0, x1, x2, x3, x4, x5, x6⟩ := z7_of H3.blk
  have HW3 : Hid (WSt w (.cells #[.string im, .int .i64 fu, .int .i64 de, .string inp, .int .i64 kd, .slice qs ns cs, .slice qe ne ce] 25) R3 (.slice a3 R3.length c3) w3) := H3
  clear h3 H3
  go_wp2_with fail
  refine (addNumbers_to (w.heap.size + 1) _ _ R3 [ns] _ (by have := HW3.out.sz; simp; omega) (by have := HL3.out; simp; omega) (HW3.out.own.alloc _) (rd_at _ _ [ns] 1 w3.heap.size _ rfl rfl rfl (by omega)) (ne_at HW3.out.own 1 1 _ (Nat.le_refl _))).mono ?_
  rintro e w4 ⟨v4, rfl, h4⟩
  obtain ⟨R4, HR4⟩ := nm (R3 ++ Bu.twos [ns])
  have HL4 : Hid (R4.length = 12 + im.size + inp.size) := by
    show R4.length = 12 + im.size + inp.size
    rw [← HR4.out, List.length_append, HL3.out, Bu.twos_len]
    simp; omega
  rw [HR4.out] at h4
  have H4 := (HW3.out.alloc _).step h4
  obtain ⟨a4, c4, hv4, -⟩ := owns_shape H4.own
  subst hv4
  clear x0 x1 x2 x3 x4 x5 x6
  obtain ⟨x0, x1, x2, x3, x4, x5, x6⟩ := z7_of H4.blk
  have HW4 : Hid (WSt w (.cells #[.string im, .int .i64 fu, .int .i64 de, .string inp, .int .i64 kd, .slice qs ns cs, .slice qe ne ce] 25) R4 (.slice a4 R4.length c4) w4) := H4
  clear h4 H4
  go_wp2
  go_loopw [3, 32] (fun v i wr => ∃ j : Nat, i = .int .i64 j ∧ j ≤ ns ∧ WSt w (.cells #[.string im, .int .i64 fu, .int .i64 de, .string inp, .int .i64 kd, .slice qs ns cs, .slice qe ne ce] 25) (R4 ++ Bu.flat (sts.take j)) v wr) (fun _ i _ => ns - (intOf i).toNat)
  case atStart => exact ⟨0, rfl, by omega, by simpa [Bu.flat] using HW4.out⟩
  case round =>
    obtain ⟨j, rfl, hj, hw⟩ := hrel
    obtain ⟨a5, c5, hv5, -⟩ := owns_shape hw.own
    subst hv5
    by_cases hlt : j < ns
    · obtain ⟨g, o, rfl, hg, hx⟩ := hSc (by omega)
      obtain ⟨q0, q1⟩ := prs_get sts j (by rw [HNS.out]; exact hlt)
      have y0 := (hw.bel.cell (p := ⟨g, o + j * 2, none⟩) hg).trans (hx _ _ q0)
      have y1 := (hw.bel.cell (p := ⟨g, o + (j * 2 + 1), none⟩) hg).trans (hx _ _ q1)
      rw [← Nat.add_assoc] at y1
      have HF : Hid (R4 ++ Bu.flat (sts.take (j + 1)) = (R4 ++ Bu.flat (sts.take j)) ++ Bu.twos [(sts[j]?.getD (0, 0)).1, (sts[j]?.getD (0, 0)).2]) := flat_snoc R4 sts j (by rw [HNS.out]; exact hlt)
      have hRl : (R4 ++ Bu.flat (sts.take j)).length ≤ 5000000 := by
        rw [List.length_append, HL4.out, Bu.flat_len, List.length_take]
        have := HNS.out
        omega
      generalize sts[j]?.getD (0, 0) = x at *
      obtain ⟨R5, HR5⟩ := nm (R4 ++ Bu.flat (sts.take j))
      rw [HR5.out] at hw hRl HF
      rw [HR5.out]
      have HW5 : Hid (WSt w (.cells #[.string im, .int .i64 fu, .int .i64 de, .string inp, .int .i64 kd, .slice (some ⟨g, o, none⟩) ns cs, .slice qe ne ce] 25) R5 (.slice a5 R5.length c5) wr) := hw
      clear hw hx q0 q1 x0 x1 x2 x3 x4 x5 x6 hSc
      go_wp2_with fail
      refine (addNumbers_to (w.heap.size + 1) _ _ R5 [x.1, x.2] _ (by have := HW5.out.sz; simp; omega) (by simp; omega) ((HW5.out.own.alloc _).alloc _) (rd_at _ _ [x.1, x.2] 2 (wr.heap.size + 1) _ (by simp) rfl rfl (by omega)) (ne_at HW5.out.own 2 2 _ (Nat.le_succ _))).mono ?_
      rintro e w6 ⟨v6, rfl, h6⟩
      rw [← HF.out] at h6
      have H6 := ((HW5.out.alloc _).alloc _).step h6
      have HW6 : Hid (WSt w (.cells #[.string im, .int .i64 fu, .int .i64 de, .string inp, .int .i64 kd, .slice (some ⟨g, o, none⟩) ns cs, .slice qe ne ce] 25) (R4 ++ Bu.flat (sts.take (j + 1))) v6 w6) := H6
      clear h6 H6 y0 y1
      go_wp2
      go_roundw
      case rel => exact ⟨j + 1, by go_num, by omega, HW6.out⟩
      case measure => simp [intOf]; omega
    · obtain rfl : j = ns := by omega
      obtain ⟨R5, HR5⟩ := nm (R4 ++ Bu.flat sts)
      have HL5 : Hid (R5.length = 12 + im.size + inp.size + 4 * j) := by
        show R5.length = 12 + im.size + inp.size + 4 * j
        rw [← HR5.out, List.length_append, HL4.out, Bu.flat_len, HNS.out]
      rw [List.take_of_length_le (by rw [HNS.out]; exact Nat.le_refl _), HR5.out] at hw ⊢
      clear x0 x1 x2 x3 x4 x5 x6
      obtain ⟨x0, x1, x2, x3, x4, x5, x6⟩ := z7_of hw.blk
      have HW5 : Hid (WSt w (.cells #[.string im, .int .i64 fu, .int .i64 de, .string inp, .int .i64 kd, .slice qs j cs, .slice qe ne ce] 25) R5 (.slice a5 R5.length c5) wr) := hw
      clear hw hSc
      go_wp2_with fail
      refine (addNumbers_to (w.heap.size + 1) _ _ R5 [ne] _ (by have := HW5.out.sz; simp; omega) (by have := HL5.out; simp; omega) (HW5.out.own.alloc _) (rd_at _ _ [ne] 1 wr.heap.size _ rfl rfl rfl (by omega)) (ne_at HW5.out.own 1 1 _ (Nat.le_refl _))).mono ?_
      rintro e w6 ⟨v6, rfl, h6⟩
      obtain ⟨R6, HR6⟩ := nm (R5 ++ Bu.twos [ne])
      have HL6 : Hid (R6.length = 14 + im.size + inp.size + 4 * j) := by
        show R6.length = 14 + im.size + inp.size + 4 * j
        rw [← HR6.out, List.length_append, HL5.out, Bu.twos_len]
        simp; omega
      rw [HR6.out] at h6
      have H6 := (HW5.out.alloc _).step h6
      obtain ⟨a6, c6, hv6, -⟩ := owns_shape H6.own
      subst hv6
      clear x0 x1 x2 x3 x4 x5 x6
      obtain ⟨x0, x1, x2, x3, x4, x5, x6⟩ := z7_of H6.blk
      have HW6 : Hid (WSt w (.cells #[.string im, .int .i64 fu, .int .i64 de, .string inp, .int .i64 kd, .slice qs j cs, .slice qe ne ce] 25) R6 (.slice a6 R6.length c6) w6) := H6
      clear h6 H6
      go_wp2_with fail
      have hne6 : ∀ k o cap, 0 < eds.length → Value.slice qe ne ce = .slice (some ⟨k, o, none⟩) eds.length cap → (Value.slice a6 R6.length c6).ownBlock ≠ some k := by
        intro k o cap h0 e hk
        have h1 := (HW6.out.own.lt k hk).1
        obtain ⟨g, o', e', hg, -⟩ := hEc (by rw [← HNE.out]; exact h0)
        rw [e'] at e
        cases e
        omega
      refine (addNumbers_to (w.heap.size + 1) _ _ R6 eds _ HW6.out.sz (by have := HL6.out; have := HNE.out; omega) HW6.out.own (by rw [HNE.out]; exact HE.out.below HW6.out.bel) hne6).mono ?_
      rintro e w7 ⟨v7, rfl, h7⟩
      obtain ⟨R7, HR7⟩ := nm (R6 ++ Bu.twos eds)
      have HL7 : Hid (R7.length = 14 + im.size + inp.size + 4 * j + 2 * ne) := by
        show R7.length = 14 + im.size + inp.size + 4 * j + 2 * ne
        rw [← HR7.out, List.length_append, HL6.out, Bu.twos_len, HNE.out]
      rw [HR7.out] at h7
      have H7 := HW6.out.step h7
      obtain ⟨a7, c7, hv7, -⟩ := owns_shape H7.own
      subst hv7
      have HW7 : Hid (WSt w (.cells #[.string im, .int .i64 fu, .int .i64 de, .string inp, .int .i64 kd, .slice qs j cs, .slice qe ne ce] 25) R7 (.slice a7 R7.length c7) w7) := H7
      clear h7 H7 x0 x1 x2 x3 x4 x5 x6
      have HBODY : Hid (Bu.body ⟨fu, de, kd, lst im, lst inp, sts, eds⟩ = R7) := by
        show Bu.body ⟨fu, de, kd, lst im, lst inp, sts, eds⟩ = R7
        rw [← HR7.out, ← HR6.out, ← HR5.out, ← HR4.out, ← HR3.out, ← HR2.out, ← HR1.out]
        unfold Bu.body
        rw [HNS.out, HNE.out]
        simp [Bu.twos, List.append_assoc]
      have HBYT : Hid (Bu.Byt R7) := by
        show Bu.Byt R7
        rw [← HBODY.out]
        exact Bu.byt_body _ (byt_lst im) (byt_lst inp)
      have HTX : Hid (T = R7 ++ Bu.four (Bu.sl R7)) := by
        show T = R7 ++ Bu.four (Bu.sl R7)
        rw [← HT.out]
        unfold Bu.text Bu.sealed
        rw [HBODY.out]
      go_wp2_with fail
      refine (sealOf_any (w.heap.size + 1) _ R7 _ HBYT.out HW7.out.own).mono ?_
      rintro e w' ⟨rfl, rfl⟩
      have HSL : Hid (Bu.sl R7 < 2 ^ 32) := Bu.sl_lt R7 HBYT.out
      have hsl : Bu.sl R7 < 4294967296 := HSL.out
      obtain ⟨q, HQ⟩ := nm (Bu.sl R7)
      rw [HQ.out] at hsl
      rw [HQ.out]
      have hl7 : R7.length ≤ 5000000 := by have := HL7.out; omega
      have hsz7 := HW7.out.sz
      go_wp2_with (at_builtin; go_loud (refine wpList_append_own _ rfl _ _ 121 rfl (w.heap.size + 1) 5 i0 (.int .u8 0) 1 1 Tryz.undBytesB hi hz0 hz1 hz2 rfl (by decide) _ _ _ rfl (HW7.out.own.alloc _) ⟨w7.heap.size, 0, none⟩ 4 4 [.int .u8 ((q : Int) % 256), .int .u8 ((q : Int) / 256 % 256), .int .u8 ((q : Int) / 65536 % 256), .int .u8 ((q : Int) / 16777216)] rfl rfl ?c1 ?c2 ?c3 ?c4 ?c5 ?_))
      case c1 => exact news4 _ _ _ _ _ _
      case c2 => intro u hu; simp at hu; rcases hu with rfl | rfl | rfl | rfl <;> rfl
      case c3 => unfold maxLen; omega
      case c4 => omega
      case c5 => simp; omega
      intro v8 w8 hown8 hgr8 _
      obtain ⟨g8, c8, hv8, -⟩ := owns_some hown8 (by omega)
      subst hv8
      have hconv : (convert 121 9 (.slice (some ⟨g8, 0, none⟩) (R7.length + 4) c8)).run Tryz.prog w8 = .ok (.string (ofL T)) w8 := by
        have hT : T.length = R7.length + 4 := by rw [HTX.out, List.length_append]; rfl
        have hbT : bys T = bys R7 ++ [.int .u8 ((q : Int) % 256), .int .u8 ((q : Int) / 256 % 256), .int .u8 ((q : Int) / 65536 % 256), .int .u8 ((q : Int) / 16777216)] := by
          rw [HTX.out, bys_app, HQ.out]
          have e4 : q / 16777216 % 256 = q / 16777216 := by omega
          unfold Bu.four
          rw [e4]
          rfl
        have hBT : Bu.Byt T := by
          rw [HTX.out]
          exact Bu.byt_app HBYT.out (Bu.byt_four _)
        have := run_convert_bytes_back (P := Tryz.prog) w8 121 9 5 ⟨g8, 0, none⟩ c8 (T.map UInt8.ofNat) Tryz.undBytesB Tryz.underlying5 Tryz.underlying9 (by
          intro k hk
          have hk' : k < T.length := by simpa using hk
          have h1 := hown8.cells (g := g8) rfl k (.int .u8 (T[k]?.getD 0 : Nat)) (by rw [← hbT]; exact bys_get T k hk')
          rw [h1]
          have := hBT _ (List.getElem_mem hk')
          simp [List.getElem?_eq_getElem hk']
          omega)
        rw [List.length_map, hT] at this
        exact this
      have HB8 : Hid (Below w.heap.size w w8) := HW7.out.bel.trans ((((Below.refl _ _).alloc (Nat.le_refl _) _).mono (Nat.le_trans (Nat.le_succ _) hsz7)).trans ((below_row (HW7.out.own.alloc _) hgr8 (by simp; omega)).mono (Nat.le_succ _)))
      clear hown8 hgr8
      go_wp2
      go_ret
      exact ⟨rfl, HB8.out⟩
end Go.Proofs.YtbmaiioecnmopabGreatDoor

/-
  BUNDLES, THE PROGRAM's SIDE (package triage): the reader: take, number. By the verifier of the loop 'triage'.
-/
namespace Go.Proofs.YtbmaiioecnmopabGreatDoor
open Go.RowKit

/-- the reader, as it lies in memory: what is left of the text. -/
def Rdr (rb : Nat) (l : List Nat) (w : World) : Prop := ∃ s, lst s = l ∧ s.size ≤ maxLen ∧ Bx rb 1 (fun _ => .string s) w
theorem Rdr.drewN {rb : Nat} {l : List Nat} {w : World} (h : Rdr rb l w) (n : Nat) : Rdr rb l (w.drewN n) := by
  obtain ⟨s, h1, h2, h3⟩ := h
  exact ⟨s, h1, h2, h3.drewN n⟩
theorem lst_at (s : ByteArray) (k : Nat) (h : k < s.size) : (lst s)[k]?.getD 0 = (s[k]'h).toNat := by
  have hk : k < s.data.toList.length := by simpa using h
  unfold lst
  rw [List.getElem?_map, List.getElem?_eq_getElem hk]
  simp
  rfl
theorem lst_take (s : ByteArray) (n : Nat) : lst (s.extract 0 n) = (lst s).take n := by
  unfold lst
  simp [List.map_take]
theorem lst_drop (s : ByteArray) (n : Nat) : lst (s.extract n s.size) = (lst s).drop n := by
  unfold lst
  simp [List.map_drop]
  apply List.take_of_length_le
  simp

theorem gby_put {w : World} {b o : Nat} {v : Value} : w.grownBy (w.setCell ⟨b, o, none⟩ v) (some b) := by
  have h := ((Below.refl b w).setCell (p := ⟨b, o, none⟩) (Nat.le_refl _) v)
  refine ⟨h.os, h.tape, h.output, h.size, fun k hk hn => ?_⟩
  exact heap_setCell_other _ _ _ _ (by intro e; exact hn (by rw [e]))
theorem bx_cg {b c : Nat} {L M : Nat → Value} {w : World} (h : Bx b c L w) (e : ∀ o, o < c → L o = M o) : Bx b c M w := ⟨fun o ho => by rw [← e o ho]; exact h.cell o ho, h.frz, h.lt⟩

set_option maxHeartbeats 1600000 in
set_option maxRecDepth 100000 in
theorem take_any (rb n : Nat) (l : List Nat) (w : World) (hn : n ≤ 65535) (h : Rdr rb l w) :
    Calls Tryz.prog 102 #[.pointer (some ⟨rb, 0, none⟩), .int .i64 (n : Nat)] w fun e w' => ∃ t, e = .returned (.string t) ∧ lst t = l.take n ∧ Rdr rb (l.drop n) w' ∧ w.grownBy w' (some rb) := by
  obtain ⟨s, hs, hm, hb⟩ := h
  have c0 := hb.cell 0 (by omega)
  have cf := hb.frz
  have HB : Hid (Bx rb 1 (fun _ => .string s) w) := hb
  have HS : Hid (lst s = l) := hs
  have HM : Hid (s.size ≤ maxLen) := hm
  unfold maxLen at hm
  clear hs hb
  have hll : l.length = s.size := by rw [← HS.out, lst_len]
  have hmn : (min (n : Int) (s.size : Int)).toNat = min n s.size := by omega
  have HR : Hid (Rdr rb (l.drop n) (w.setCell ⟨rb, 0, none⟩ (.string (s.extract (min (n : Int) (s.size : Int)).toNat s.size)))) := by
    show Rdr rb (l.drop n) (w.setCell ⟨rb, 0, none⟩ (.string (s.extract (min (n : Int) (s.size : Int)).toNat s.size)))
    rw [hmn]
    refine ⟨s.extract (min n s.size) s.size, ?_, ?_, ?_⟩
    · rw [lst_drop, HS.out]
      by_cases hle : n ≤ s.size
      · rw [Nat.min_eq_left hle]
      · rw [List.drop_of_length_le (by omega), List.drop_of_length_le (by omega)]
    · have := HM.out; simp; omega
    · refine bx_cg (HB.out.set 0 (.string (s.extract (min n s.size) s.size)) (by omega)) ?_
      intro o ho
      obtain rfl : o = 0 := by omega
      rfl
  have HT : Hid (lst (s.extract 0 (min (n : Int) (s.size : Int)).toNat) = l.take n) := by
    show lst (s.extract 0 (min (n : Int) (s.size : Int)).toNat) = l.take n
    rw [hmn, lst_take, HS.out]
    by_cases hle : n ≤ s.size
    · rw [Nat.min_eq_left hle]
    · rw [List.take_of_length_le (by omega), List.take_of_length_le (by omega)]
  clear hll hmn
  go_enter Tryz.func102, Tryz.ntmps102
  go_wp2
  go_ret
  exact ⟨_, rfl, HT.out, HR.out, gby_put⟩

theorem bits_or_two (a b : Nat) (ha : a < 256) (hb : b < 256) : bits .or .i64 (a : Int) ((b : Int) * 256) = ((a + 256 * b : Nat) : Int) := by
  have h : ∀ x : Fin 256, ∀ y : Fin 256, bits .or .i64 ((x.val : Nat) : Int) (((y.val : Nat) : Int) * 256) = ((x.val + 256 * y.val : Nat) : Int) := by
    intro x y
    have e1 : (BitVec.ofInt 64 ((x.val : Nat) : Int)).toNat = x.val := by rw [BitVec.ofInt_natCast, BitVec.toNat_ofNat]; have := x.isLt; omega
    have e2 : (BitVec.ofInt 64 (((y.val : Nat) : Int) * 256)).toNat = 256 * y.val := by
      rw [show (((y.val : Nat) : Int) * 256) = ((256 * y.val : Nat) : Int) from by omega, BitVec.ofInt_natCast, BitVec.toNat_ofNat]
      have := y.isLt
      omega
    have e3 : x.val ||| 256 * y.val = x.val + 256 * y.val := by
      rw [Nat.or_comm, Nat.add_comm, show 256 * y.val = y.val <<< 8 from by rw [Nat.shiftLeft_eq]; omega, Nat.shiftLeft_add_eq_or_of_lt (by have := x.isLt; omega)]
    show IntKind.i64.wrap ((BitVec.ofInt 64 ((x.val : Nat) : Int) ||| BitVec.ofInt 64 (((y.val : Nat) : Int) * 256)).toNat : Int) = _
    rw [BitVec.toNat_or, e1, e2, e3]
    have hx := x.isLt
    have hy := y.isLt
    simp [IntKind.wrap, IntKind.bits, IntKind.signed]
    omega
  exact h ⟨a, ha⟩ ⟨b, hb⟩

set_option maxHeartbeats 1600000 in
set_option maxRecDepth 100000 in
theorem number_any (rb : Nat) (l : List Nat) (w : World) (h : Rdr rb l w) :
    Calls Tryz.prog 61 #[.pointer (some ⟨rb, 0, none⟩)] w fun e w' => e = .returned (.int .i64 ((Bu.rnum l).1 : Nat)) ∧ Rdr rb (Bu.rnum l).2 w' ∧ w.grownBy w' (some rb) := by
  have HR : Hid (Rdr rb l w) := h
  clear h
  obtain ⟨q, HQ⟩ := nm (Bu.rnum l).1
  rw [HQ.out]
  go_enter Tryz.func61, Tryz.ntmps61
  go_wp2_with fail
  refine (take_any rb 2 l _ (by omega) HR.out).mono ?_
  rintro e w1 ⟨t, rfl, ht, hr1, hg1⟩
  have HR1 : Hid (Rdr rb (Bu.rnum l).2 w1) := hr1
  have HG1 : Hid (w.grownBy w1 (some rb)) := hg1
  have htl : t.size = min 2 l.length := by rw [← lst_len, ht, List.length_take]
  clear hr1 hg1
  by_cases hl : l.length < 2
  · have HZ : Hid (q = 0) := by
      show q = 0
      rw [← HQ.out]; unfold Bu.rnum; rw [if_pos hl]
    have ht2 : t.size < 2 := by omega
    clear htl
    go_wp2
    go_ret
    exact ⟨by rw [HZ.out]; rfl, HR1.out, HG1.out⟩
  · have ht2 : t.size = 2 := by omega
    have hg : ∀ k, k < 2 → (lst t)[k]?.getD 0 = l[k]?.getD 0 := fun k hk => by rw [ht, List.getElem?_take_of_lt hk]
    clear htl
    go_wp2
    go_quiet (fail)
    go_wp2
    go_ret
    have key : bits .or .i64 (wrap64 ((t[0]'(by omega)).toNat : Nat)) (wrap64 (wrap64 ((t[1]'(by omega)).toNat : Nat) * 256)) = (q : Int) := by
      have e0 : (t[0]'(by omega)).toNat = l[0]?.getD 0 := by rw [← hg 0 (by omega)]; exact (lst_at t 0 (by omega)).symm
      have e1 : (t[1]'(by omega)).toNat = l[1]?.getD 0 := by rw [← hg 1 (by omega)]; exact (lst_at t 1 (by omega)).symm
      have h0 := (t[0]'(by omega)).toNat_lt
      have h1 := (t[1]'(by omega)).toNat_lt
      rw [e0] at h0 ⊢
      rw [e1] at h1 ⊢
      have hq : q = l[0]?.getD 0 + 256 * l[1]?.getD 0 := by rw [← HQ.out]; unfold Bu.rnum; rw [if_neg hl]
      rw [hq]
      generalize l[0]?.getD 0 = a at *
      generalize l[1]?.getD 0 = b at *
      have w0 : wrap64 (a : Int) = a := by unfold wrap64; omega
      have w1 : wrap64 (b : Int) = b := by unfold wrap64; omega
      have w2 : wrap64 ((b : Int) * 256) = (b : Int) * 256 := by unfold wrap64; omega
      rw [w0, w1, w2]
      exact bits_or_two a b h0 h1
    exact ⟨congrArg (fun x => Ending.returned (Value.int .i64 x)) key, HR1.out.drewN _, ⟨HG1.out.os, HG1.out.tape, HG1.out.output, HG1.out.size, HG1.out.block⟩⟩
end Go.Proofs.YtbmaiioecnmopabGreatDoor

/-
  BUNDLES, THE PROGRAM's SIDE (package triage): the reader: text, count, edges, sites. By the verifier of the loop 'triage'.
-/
namespace Go.Proofs.YtbmaiioecnmopabGreatDoor
open Go.RowKit

theorem rnum_le (l : List Nat) (h : Bu.Byt l) : (Bu.rnum l).1 ≤ 65535 := by
  unfold Bu.rnum
  split
  · omega
  · have g : ∀ k : Nat, l[k]?.getD 0 < 256 := by
      intro k
      by_cases hk : k < l.length
      · rw [List.getElem?_eq_getElem hk]; exact h _ (List.getElem_mem hk)
      · rw [List.getElem?_eq_none (by omega)]; decide
    have := g 0
    have := g 1
    omega
theorem Rdr.byt {rb : Nat} {l : List Nat} {w : World} (h : Rdr rb l w) : Bu.Byt l := by
  obtain ⟨s, rfl, -, -⟩ := h
  exact byt_lst s
theorem Rdr.below {rb : Nat} {l : List Nat} {w w' : World} (h : Rdr rb l w) (hb : Below w.heap.size w w') : Rdr rb l w' := by
  obtain ⟨s, h1, h2, h3⟩ := h
  exact ⟨s, h1, h2, h3.grown (row := none) ⟨hb.os, hb.tape, hb.output, hb.size, fun j hj _ => hb.block j hj⟩ (by simp)⟩
theorem gby_below {w w1 w2 : World} {rb : Nat} (h : w.grownBy w1 (some rb)) (hb : Below w1.heap.size w1 w2) : w.grownBy w2 (some rb) :=
  ⟨hb.os.trans h.os, hb.tape.trans h.tape, hb.output.trans h.output, Nat.le_trans h.size hb.size, fun k hk hn => (hb.block k (Nat.lt_of_lt_of_le hk h.size)).trans (h.block k hk hn)⟩
theorem gby_trans {w w1 w2 : World} {row : Option Nat} (h : w.grownBy w1 row) (k : w1.grownBy w2 row) : w.grownBy w2 row :=
  ⟨k.os.trans h.os, k.tape.trans h.tape, k.output.trans h.output, Nat.le_trans h.size k.size, fun j hj hn => (k.block j (Nat.lt_of_lt_of_le hj h.size) hn).trans (h.block j hj hn)⟩

set_option maxHeartbeats 1600000 in
set_option maxRecDepth 100000 in
theorem rtext_any (rb : Nat) (l : List Nat) (w : World) (h : Rdr rb l w) :
    Calls Tryz.prog 62 #[.pointer (some ⟨rb, 0, none⟩)] w fun e w' => ∃ t, e = .returned (.string t) ∧ lst t = (Bu.rtxt l).1 ∧ Rdr rb (Bu.rtxt l).2 w' ∧ w.grownBy w' (some rb) := by
  have HR : Hid (Rdr rb l w) := h
  clear h
  go_enter Tryz.func62, Tryz.ntmps62
  go_wp2_with fail
  refine (number_any rb l _ HR.out).mono ?_
  rintro e w1 ⟨rfl, hr1, hg1⟩
  have hn := rnum_le l HR.out.byt
  have HR1 : Hid (Rdr rb (Bu.rnum l).2 w1) := hr1
  have HG1 : Hid (w.grownBy w1 (some rb)) := hg1
  clear hr1 hg1
  obtain ⟨q, HQ⟩ := nm (Bu.rnum l).1
  rw [HQ.out] at hn
  rw [HQ.out]
  go_wp2_with fail
  refine (take_any rb q _ _ hn HR1.out).mono ?_
  rintro e w2 ⟨t, rfl, ht, hr2, hg2⟩
  have HT : Hid (lst t = (Bu.rtxt l).1) := by
    show lst t = (Bu.rtxt l).1
    unfold Bu.rtxt
    rw [HQ.out]; exact ht
  have HR2 : Hid (Rdr rb (Bu.rtxt l).2 w2) := by
    show Rdr rb (Bu.rtxt l).2 w2
    unfold Bu.rtxt
    rw [HQ.out]; exact hr2
  have hts : t.size ≤ 100000 := by
    have : (lst t).length ≤ q := by rw [ht, List.length_take]; omega
    rw [lst_len] at this
    omega
  have HG2 : Hid (w.grownBy w2 (some rb)) := gby_trans HG1.out hg2
  clear ht hr2 hg2
  go_wp2_with fail
  refine (clone_str t _ hts).mono ?_
  rintro e w3 ⟨rfl, hb3⟩
  have HR3 : Hid (Rdr rb (Bu.rtxt l).2 w3) := HR2.out.below hb3
  have HG3 : Hid (w.grownBy w3 (some rb)) := gby_below HG2.out hb3
  clear hb3
  go_wp2
  go_ret
  exact ⟨t, rfl, HT.out, HR3.out, HG3.out⟩

set_option maxHeartbeats 1600000 in
set_option maxRecDepth 100000 in
theorem count_any (rb : Nat) (l : List Nat) (w : World) (h : Rdr rb l w) :
    Calls Tryz.prog 104 #[.pointer (some ⟨rb, 0, none⟩)] w fun e w' => e = .returned (.int .i64 ((Bu.rcount l).1 : Nat)) ∧ Rdr rb (Bu.rcount l).2 w' ∧ w.grownBy w' (some rb) := by
  have HR : Hid (Rdr rb l w) := h
  clear h
  obtain ⟨c, HC⟩ := nm (Bu.rcount l).1
  rw [HC.out]
  go_enter Tryz.func104, Tryz.ntmps104
  go_wp2_with fail
  refine (number_any rb l _ HR.out).mono ?_
  rintro e w1 ⟨rfl, hr1, hg1⟩
  have hn := rnum_le l HR.out.byt
  have HR1 : Hid (Rdr rb (Bu.rcount l).2 w1) := hr1
  have HG1 : Hid (w.grownBy w1 (some rb)) := hg1
  obtain ⟨s, hs, hm, hb⟩ := hr1
  have c0 := hb.cell 0 (by omega)
  have hce : c = min (Bu.rnum l).1 s.size := by
    rw [← HC.out]
    unfold Bu.rcount
    rw [← hs, lst_len]
  unfold maxLen at hm
  clear hg1 hb hs
  obtain ⟨q, HQ⟩ := nm (Bu.rnum l).1
  rw [HQ.out] at hn hce
  rw [HQ.out]
  have HE : Hid ((c : Int) = min (q : Int) (s.size : Int)) := by show (c : Int) = min (q : Int) (s.size : Int); omega
  clear hce
  go_wp2
  go_ret
  exact ⟨congrArg (fun x => Ending.returned (Value.int .i64 x)) HE.out.symm, HR1.out, HG1.out⟩

theorem rnums_len (n : Nat) : ∀ l, (Bu.rnums n l).1.length = n := by
  induction n with
  | zero => intro l; rfl
  | succ n ih => intro l; unfold Bu.rnums; dsimp only; rw [List.length_append, ih]; rfl
theorem rprs_len (n : Nat) : ∀ l, (Bu.rprs n l).1.length = n := by
  induction n with
  | zero => intro l; rfl
  | succ n ih => intro l; unfold Bu.rprs; dsimp only; rw [List.length_append, ih]; rfl
theorem rcount_le (l : List Nat) (h : Bu.Byt l) : (Bu.rcount l).1 ≤ 65535 := by
  have := rnum_le l h
  unfold Bu.rcount
  dsimp only
  omega
theorem Rdr.lt {rb : Nat} {l : List Nat} {w : World} (h : Rdr rb l w) : rb < w.heap.size := by
  obtain ⟨s, -, -, hb⟩ := h
  exact hb.lt
theorem Rdr.alloc {rb : Nat} {l : List Nat} {w : World} (h : Rdr rb l w) (o : Obj) : Rdr rb l (w.alloc o) := h.below ((Below.refl _ _).alloc (Nat.le_refl _) _)
theorem Rdr.grown {rb : Nat} {l : List Nat} {w w' : World} {row : Option Nat} (h : Rdr rb l w) (hg : w.grownBy w' row) (hr : some rb ≠ row) : Rdr rb l w' := by
  obtain ⟨s, h1, h2, h3⟩ := h
  exact ⟨s, h1, h2, h3.grown hg hr⟩
/-- a row of the call's own is grown: below, only the reader's block turns. -/
theorem gby_row {w wr w2 : World} {rb A : Nat} {e : TypeId} {size n : Nat} {v : Value} {xs : List Value} (h : w.grownBy wr (some rb)) (hA : w.heap.size ≤ A) (ho : wr.ownsRow A e size v n xs) (hg : wr.grownBy w2 v.ownBlock) : w.grownBy w2 (some rb) :=
  ⟨hg.os.trans h.os, hg.tape.trans h.tape, hg.output.trans h.output, Nat.le_trans h.size hg.size, fun k hk hn => (hg.block k (Nat.lt_of_lt_of_le hk h.size) (by intro e; have := (ho.lt k e.symm).1; omega)).trans (h.block k hk hn)⟩

set_option maxHeartbeats 1600000 in
set_option maxRecDepth 100000 in
theorem redges_any (rb : Nat) (l : List Nat) (w : World) (h : Rdr rb l w) :
    Calls Tryz.prog 64 #[.pointer (some ⟨rb, 0, none⟩)] w fun e w' => ∃ v, e = .returned v ∧ w'.ownsRow w.heap.size 3 1 v (Bu.redges l).1.length (ints (Bu.redges l).1) ∧ Rdr rb (Bu.redges l).2 w' ∧ w.grownBy w' (some rb) := by
  obtain ⟨i0, hi, hz0, hz1, hz2⟩ := info_parts Tryz.infoInt
  have HR : Hid (Rdr rb l w) := h
  have hrb := h.lt
  clear h
  have HE : Hid (Bu.redges l = Bu.rnums (Bu.rcount l).1 (Bu.rcount l).2) := rfl
  obtain ⟨E, HEE⟩ := nm (Bu.redges l)
  rw [HEE.out] at HE
  rw [HEE.out]
  go_enter Tryz.func64, Tryz.ntmps64
  go_wp2_with fail
  refine (count_any rb l _ HR.out).mono ?_
  rintro e w1 ⟨rfl, hr1, hg1⟩
  have hc := rcount_le l HR.out.byt
  have HR1 : Hid (Rdr rb (Bu.rcount l).2 w1) := hr1
  have HG1 : Hid (w.grownBy w1 (some rb)) := hg1
  clear hr1 hg1
  generalize (Bu.rcount l).1 = c at *
  generalize (Bu.rcount l).2 = m at *
  go_wp2
  go_loopw [3, 6] (fun v i wr => ∃ j : Nat, i = .int .i64 j ∧ j ≤ c ∧ wr.ownsRow w.heap.size 3 1 v (Bu.rnums j m).1.length (ints (Bu.rnums j m).1) ∧ Rdr rb (Bu.rnums j m).2 wr ∧ w.grownBy wr (some rb)) (fun _ i _ => c - (intOf i).toNat)
  case atStart => exact ⟨0, rfl, by omega, World.ownsRow_nil _ _ _ _, HR1.out, HG1.out⟩
  case round =>
    obtain ⟨j, rfl, hj, hown, hr, hg⟩ := hrel
    obtain ⟨a2, c2, hv2, -⟩ := owns_shape hown
    subst hv2
    by_cases hlt : j < c
    · have HS : Hid (Bu.rnums (j + 1) m = ((Bu.rnums j m).1 ++ [(Bu.rnum (Bu.rnums j m).2).1], (Bu.rnum (Bu.rnums j m).2).2)) := rfl
      have hl := rnums_len j m
      have hle : (Bu.rnums j m).1.length ≤ 65535 := by omega
      have HO : Hid (wr.ownsRow w.heap.size 3 1 (.slice a2 (Bu.rnums j m).1.length c2) (Bu.rnums j m).1.length (ints (Bu.rnums j m).1)) := hown
      have HR2 : Hid (Rdr rb (Bu.rnums j m).2 wr) := hr
      have HG2 : Hid (w.grownBy wr (some rb)) := hg
      clear hown hr hg hl
      generalize Bu.rnums j m = P at *
      go_wp2_with fail
      refine (number_any rb P.2 _ HR2.out).mono ?_
      rintro e w3 ⟨rfl, hr3, hg3⟩
      have ho3 := World.ownsRow.kept HO.out hg3 (Or.inr (by intro e; have := (HO.out.lt rb e).1; omega))
      have HR3 : Hid (Rdr rb (Bu.rnum P.2).2 w3) := hr3
      have HG3 : Hid (w.grownBy w3 (some rb)) := gby_trans HG2.out hg3
      have hsz3 := HG3.out.size
      generalize (Bu.rnum P.2).1 = x at *
      generalize (Bu.rnum P.2).2 = m2 at *
      clear hr3 hg3
      go_wp2_with (at_builtin; (refine wpList_append_own _ rfl _ _ 23 rfl w.heap.size 3 i0 (.int .i64 0) 1 8 Tryz.undInts hi hz0 hz1 hz2 rfl (by decide) _ _ _ rfl (ho3.alloc _) ⟨w3.heap.size, 0, none⟩ 1 1 [.int .i64 (x : Nat)] rfl rfl ?c1 ?c2 ?c3 ?c4 ?c5 ?_))
      case c1 =>
        intro i u hi
        match i, hi with
        | 0, hi => simp at hi; subst hi; simp [Addr.add]
      case c2 => intro u hu; simp at hu; subst hu; rfl
      case c3 => unfold maxLen; omega
      case c4 => omega
      case c5 => simp; omega
      intro v4 w4 hown4 hgr4 _
      have hgr5 : w3.grownBy w4 (Value.slice a2 P.1.length c2).ownBlock := gby_trans (World.grownBy_alloc _ _ _) hgr4
      have HO4 : Hid (w4.ownsRow w.heap.size 3 1 v4 (Bu.rnums (j + 1) m).1.length (ints (Bu.rnums (j + 1) m).1)) := by
        show w4.ownsRow w.heap.size 3 1 v4 (Bu.rnums (j + 1) m).1.length (ints (Bu.rnums (j + 1) m).1)
        rw [HS.out]
        simpa [ints] using hown4
      have HR4 : Hid (Rdr rb (Bu.rnums (j + 1) m).2 w4) := by
        show Rdr rb (Bu.rnums (j + 1) m).2 w4
        rw [HS.out]
        exact HR3.out.grown hgr5 (by intro e; have := (HO.out.lt rb e.symm).1; omega)
      have HG4 : Hid (w.grownBy w4 (some rb)) := gby_row HG3.out (Nat.le_refl _) ho3 hgr5
      clear hown4 hgr4 hgr5 ho3
      go_wp2
      go_roundw
      case rel => exact ⟨j + 1, by go_num, by omega, HO4.out, HR4.out, HG4.out⟩
      case measure => simp [intOf]; omega
    · obtain rfl : j = c := by omega
      have HO4 : Hid (wr.ownsRow w.heap.size 3 1 (.slice a2 (Bu.rnums j m).1.length c2) E.1.length (ints E.1)) := by rw [HE.out]; exact hown
      have HR4 : Hid (Rdr rb E.2 wr) := by rw [HE.out]; exact hr
      have HG4 : Hid (w.grownBy wr (some rb)) := hg
      clear hown hr hg
      go_wp2
      go_ret
      exact ⟨_, rfl, HO4.out, HR4.out, HG4.out⟩
end Go.Proofs.YtbmaiioecnmopabGreatDoor

/-
  BUNDLES, THE PROGRAM's SIDE (package triage): the reader: sites; parse. By the verifier of the loop 'triage'.
-/
namespace Go.Proofs.YtbmaiioecnmopabGreatDoor
open Go.RowKit

theorem Tryz.infoSiteB : (Tryz.prog.info? 54).map (fun i => (i.zero, i.size, i.bytes)) = some (some (.agg #[.int .i64 0, .int .i64 0]), 2, 16) := by kernel_rfl
theorem Tryz.undSitesB : Tryz.prog.underlying 22 = some (.slice 54) := by kernel_rfl

set_option maxHeartbeats 1600000 in
set_option maxRecDepth 100000 in
theorem rsites_any (rb : Nat) (l : List Nat) (w : World) (h : Rdr rb l w) :
    Calls Tryz.prog 63 #[.pointer (some ⟨rb, 0, none⟩)] w fun e w' => ∃ v, e = .returned v ∧ w'.ownsRow w.heap.size 54 2 v (Bu.rsites l).1.length (prs (Bu.rsites l).1) ∧ Rdr rb (Bu.rsites l).2 w' ∧ w.grownBy w' (some rb) := by
  obtain ⟨i0, hi, hz0, hz1, hz2⟩ := info_parts Tryz.infoSiteB
  have HR : Hid (Rdr rb l w) := h
  have hrb := h.lt
  clear h
  have HE : Hid (Bu.rsites l = Bu.rprs (Bu.rcount l).1 (Bu.rcount l).2) := rfl
  obtain ⟨E, HEE⟩ := nm (Bu.rsites l)
  rw [HEE.out] at HE
  rw [HEE.out]
  go_enter Tryz.func63, Tryz.ntmps63
  go_wp2_with fail
  refine (count_any rb l _ HR.out).mono ?_
  rintro e w1 ⟨rfl, hr1, hg1⟩
  have hc := rcount_le l HR.out.byt
  have HR1 : Hid (Rdr rb (Bu.rcount l).2 w1) := hr1
  have HG1 : Hid (w.grownBy w1 (some rb)) := hg1
  clear hr1 hg1
  generalize (Bu.rcount l).1 = c at *
  generalize (Bu.rcount l).2 = m at *
  go_wp2
  go_loopw [3, 6] (fun v i wr => ∃ j : Nat, i = .int .i64 j ∧ j ≤ c ∧ wr.ownsRow w.heap.size 54 2 v (Bu.rprs j m).1.length (prs (Bu.rprs j m).1) ∧ Rdr rb (Bu.rprs j m).2 wr ∧ w.grownBy wr (some rb)) (fun _ i _ => c - (intOf i).toNat)
  case atStart => exact ⟨0, rfl, by omega, World.ownsRow_nil _ _ _ _, HR1.out, HG1.out⟩
  case round =>
    obtain ⟨j, rfl, hj, hown, hr, hg⟩ := hrel
    obtain ⟨a2, c2, hv2, -⟩ := owns_shape hown
    subst hv2
    by_cases hlt : j < c
    · have HS : Hid (Bu.rprs (j + 1) m = ((Bu.rprs j m).1 ++ [((Bu.rnum (Bu.rprs j m).2).1, (Bu.rnum (Bu.rnum (Bu.rprs j m).2).2).1)], (Bu.rnum (Bu.rnum (Bu.rprs j m).2).2).2)) := rfl
      have hl := rprs_len j m
      have hle : (Bu.rprs j m).1.length ≤ 65535 := by omega
      have HO : Hid (wr.ownsRow w.heap.size 54 2 (.slice a2 (Bu.rprs j m).1.length c2) (Bu.rprs j m).1.length (prs (Bu.rprs j m).1)) := hown
      have HR2 : Hid (Rdr rb (Bu.rprs j m).2 wr) := hr
      have HG2 : Hid (w.grownBy wr (some rb)) := hg
      clear hown hr hg hl
      generalize Bu.rprs j m = P at *
      go_wp2_with fail
      refine (number_any rb P.2 _ HR2.out).mono ?_
      rintro e w2 ⟨rfl, hr3, hg3⟩
      have HO2 : Hid (w2.ownsRow w.heap.size 54 2 (.slice a2 P.1.length c2) P.1.length (prs P.1)) := World.ownsRow.kept HO.out hg3 (Or.inr (by intro e; have := (HO.out.lt rb e).1; omega))
      have HR3 : Hid (Rdr rb (Bu.rnum P.2).2 w2) := hr3
      have HG3 : Hid (w.grownBy w2 (some rb)) := gby_trans HG2.out hg3
      generalize (Bu.rnum P.2).1 = x at *
      generalize (Bu.rnum P.2).2 = m2 at *
      clear hr3 hg3
      go_wp2_with fail
      refine (number_any rb m2 _ HR3.out).mono ?_
      rintro e w3 ⟨rfl, hr4, hg4⟩
      have ho3 := World.ownsRow.kept HO2.out hg4 (Or.inr (by intro e; have := (HO2.out.lt rb e).1; omega))
      have HR5 : Hid (Rdr rb (Bu.rnum m2).2 w3) := hr4
      have HG5 : Hid (w.grownBy w3 (some rb)) := gby_trans HG3.out hg4
      have hsz3 := HG5.out.size
      generalize (Bu.rnum m2).1 = y at *
      generalize (Bu.rnum m2).2 = m3 at *
      clear hr4 hg4
      go_wp2_with (at_builtin; (refine wpList_append_own _ rfl _ _ 22 rfl w.heap.size 54 i0 (.agg #[.int .i64 0, .int .i64 0]) 2 16 Tryz.undSitesB hi hz0 hz1 hz2 rfl (by decide) _ _ _ rfl (ho3.alloc _) ⟨w3.heap.size, 0, none⟩ 1 1 [.int .i64 (x : Nat), .int .i64 (y : Nat)] rfl rfl ?c1 ?c2 ?c3 ?c4 ?c5 ?_))
      case c1 => exact news2 _ _ _ _
      case c2 => exact ones2 _ _ _
      case c3 => unfold maxLen; omega
      case c4 => omega
      case c5 => simp; omega
      intro v4 w4 hown4 hgr4 _
      have hgr5 : w3.grownBy w4 (Value.slice a2 P.1.length c2).ownBlock := gby_trans (World.grownBy_alloc _ _ _) hgr4
      have HO4 : Hid (w4.ownsRow w.heap.size 54 2 v4 (Bu.rprs (j + 1) m).1.length (prs (Bu.rprs (j + 1) m).1)) := by
        show w4.ownsRow w.heap.size 54 2 v4 (Bu.rprs (j + 1) m).1.length (prs (Bu.rprs (j + 1) m).1)
        rw [HS.out, prs_append, List.length_append]
        exact hown4
      have HR4 : Hid (Rdr rb (Bu.rprs (j + 1) m).2 w4) := by
        show Rdr rb (Bu.rprs (j + 1) m).2 w4
        rw [HS.out]
        exact HR5.out.grown hgr5 (by intro e; have := (HO.out.lt rb e.symm).1; omega)
      have HG4 : Hid (w.grownBy w4 (some rb)) := gby_row HG5.out (Nat.le_refl _) ho3 hgr5
      clear hown4 hgr4 hgr5 ho3
      go_wp2
      go_roundw
      case rel => exact ⟨j + 1, by go_num, by omega, HO4.out, HR4.out, HG4.out⟩
      case measure => simp [intOf]; omega
    · obtain rfl : j = c := by omega
      have HO4 : Hid (wr.ownsRow w.heap.size 54 2 (.slice a2 (Bu.rprs j m).1.length c2) E.1.length (prs E.1)) := by rw [HE.out]; exact hown
      have HR4 : Hid (Rdr rb E.2 wr) := by rw [HE.out]; exact hr
      have HG4 : Hid (w.grownBy wr (some rb)) := hg
      clear hown hr hg
      go_wp2
      go_ret
      exact ⟨_, rfl, HO4.out, HR4.out, HG4.out⟩

/-- what parse answers: a bundle in new memory. -/
def ParseP (l : List Nat) (w w' : World) (e : Ending) : Prop :=
  ∃ im inp sv ev, e = .returned (bunV im inp (Bu.parse l).fu (Bu.parse l).de (Bu.parse l).kd sv ev) ∧ lst im = (Bu.parse l).im ∧ lst inp = (Bu.parse l).inp ∧
    w'.ownsRow w.heap.size 54 2 sv (Bu.parse l).sts.length (prs (Bu.parse l).sts) ∧ w'.ownsRow w.heap.size 3 1 ev (Bu.parse l).eds.length (ints (Bu.parse l).eds) ∧ Below w.heap.size w w'

theorem bx_blk {w : World} {b : Nat} {v : Value} {t : TypeId} (h : w.heap[b]? = some (.cells #[v] t (0, 0))) : Bx b 1 (fun _ => v) w := by
  refine ⟨fun o ho => ?_, fun o => ?_, (Array.getElem?_eq_some_iff.1 h).1⟩
  · obtain rfl : o = 0 := by omega
    simp [World.cell?, h]
  · simp [World.frozen?, h]
theorem rbase {w : World} {base base' : Nat} {e : TypeId} {size : Nat} {v : Value} {n : Nat} {xs : List Value} (h : w.ownsRow base e size v n xs) (hb : base' ≤ base) : w.ownsRow base' e size v n xs :=
  ⟨h.1, h.2.imp id (fun ⟨g, cap, cur, e1, hb', r⟩ => ⟨g, cap, cur, e1, Nat.le_trans hb hb', r⟩)⟩
/-- seven cells are set at a block. -/
def put7 (w : World) (b : Nat) (v0 v1 v2 v3 v4 v5 v6 : Value) : World :=
  ((((((w.setCell ⟨b, 0, none⟩ v0).setCell ⟨b, 1, none⟩ v1).setCell ⟨b, 2, none⟩ v2).setCell ⟨b, 3, none⟩ v3).setCell ⟨b, 4, none⟩ v4).setCell ⟨b, 5, none⟩ v5).setCell ⟨b, 6, none⟩ v6
theorem put7_below {a w : World} {b B : Nat} {v0 v1 v2 v3 v4 v5 v6 : Value} (h : Below B a w) (hb : B ≤ b) : Below B a (put7 w b v0 v1 v2 v3 v4 v5 v6) :=
  ((((((h.setCell (p := ⟨b, 0, none⟩) hb _).setCell (p := ⟨b, 1, none⟩) hb _).setCell (p := ⟨b, 2, none⟩) hb _).setCell (p := ⟨b, 3, none⟩) hb _).setCell (p := ⟨b, 4, none⟩) hb _).setCell (p := ⟨b, 5, none⟩) hb _).setCell (p := ⟨b, 6, none⟩) hb _
theorem put7_owns {w : World} {b A : Nat} {e : TypeId} {size n : Nat} {v : Value} {xs : List Value} {v0 v1 v2 v3 v4 v5 v6 : Value} (h : w.ownsRow A e size v n xs) (hb : b < A) : (put7 w b v0 v1 v2 v3 v4 v5 v6).ownsRow A e size v n xs := by
  have hne : v.ownBlock ≠ some b := by intro e; have := (h.lt b e).1; omega
  have k : ∀ {W : World} {o : Nat} {u : Value}, W.ownsRow A e size v n xs → (W.setCell ⟨b, o, none⟩ u).ownsRow A e size v n xs := fun hW => World.ownsRow.kept hW gby_put (Or.inr hne)
  exact k (k (k (k (k (k (k h))))))
theorem gby_new {w w1 : World} {o p : Obj} {rb : Nat} (h : ((w.alloc o).alloc p).grownBy w1 (some rb)) (hrb : w.heap.size < rb) : Below w.heap.size w w1 ∧ w1.heap[w.heap.size]? = some o := by
  have h1 : Below (w.heap.size + 1) (w.alloc o) ((w.alloc o).alloc p) := (Below.refl _ _).alloc (by simp) _
  have h2 : Below (w.heap.size + 1) ((w.alloc o).alloc p) w1 := ⟨h.os, h.tape, h.output, h.size, fun k hk => h.block k (by simp; omega) (by intro e; cases e; omega)⟩
  have h3 := h1.trans h2
  exact ⟨((Below.refl _ _).alloc (Nat.le_refl _) _).trans (h3.mono (Nat.le_succ _)), (h3.block _ (Nat.lt_succ_self _)).trans (hp_new _ _)⟩

set_option maxHeartbeats 1600000 in
set_option maxRecDepth 100000 in
theorem parse_any (s : ByteArray) (w : World) (hm : s.size ≤ maxLen) :
    Calls Tryz.prog 36 #[.string s] w fun e w' => ParseP (lst s) w w' e := by
  obtain ⟨l, HL⟩ := nm (lst s)
  rw [HL.out]
  have HM : Hid (s.size ≤ maxLen) := hm
  clear hm
  go_enter Tryz.func36, Tryz.ntmps36
  go_wp2_with fail
  obtain ⟨W0, HW0⟩ := nm ((w.alloc (.cells #[.string ⟨#[]⟩, .int .i64 0, .int .i64 0, .string ⟨#[]⟩, .int .i64 0, .slice none 0 0, .slice none 0 0] 25)).alloc (.cells #[.string s] 143))
  rw [HW0.out]
  have hz0 : W0.heap.size = w.heap.size + 2 := by rw [← HW0.out]; simp
  have HR0 : Hid (Rdr (w.heap.size + 1) l W0) := by
    refine ⟨s, HL.out, HM.out, ?_⟩
    have e := hp_new (w.alloc (.cells #[.string ⟨#[]⟩, .int .i64 0, .int .i64 0, .string ⟨#[]⟩, .int .i64 0, .slice none 0 0, .slice none 0 0] 25)) (.cells #[.string s] 143)
    rw [World.size_alloc, HW0.out] at e
    exact bx_blk e
  refine (number_any _ l _ HR0.out).mono ?_
  rintro e w1 ⟨rfl, hr1, hg1⟩
  have HR1 : Hid (Rdr (w.heap.size + 1) (Bu.rnum l).2 w1) := hr1
  have HG1 : Hid (W0.grownBy w1 (some (w.heap.size + 1))) := hg1
  clear hr1 hg1
  obtain ⟨A1, HA1⟩ := nm (Bu.rnum l)
  rw [HA1.out] at HR1
  rw [HA1.out]
  go_wp2_with fail
  refine (number_any _ A1.2 _ HR1.out).mono ?_
  rintro e w2 ⟨rfl, hr2, hg2⟩
  have HR2 : Hid (Rdr (w.heap.size + 1) (Bu.rnum A1.2).2 w2) := hr2
  have HG2 : Hid (W0.grownBy w2 (some (w.heap.size + 1))) := gby_trans HG1.out hg2
  clear hr2 hg2
  obtain ⟨A2, HA2⟩ := nm (Bu.rnum A1.2)
  rw [HA2.out] at HR2
  rw [HA2.out]
  go_wp2_with fail
  refine (number_any _ A2.2 _ HR2.out).mono ?_
  rintro e w3 ⟨rfl, hr3, hg3⟩
  have HR3 : Hid (Rdr (w.heap.size + 1) (Bu.rnum A2.2).2 w3) := hr3
  have HG3 : Hid (W0.grownBy w3 (some (w.heap.size + 1))) := gby_trans HG2.out hg3
  clear hr3 hg3
  obtain ⟨A3, HA3⟩ := nm (Bu.rnum A2.2)
  rw [HA3.out] at HR3
  rw [HA3.out]
  go_wp2_with fail
  refine (rtext_any _ A3.2 _ HR3.out).mono ?_
  rintro e w4 ⟨im, rfl, him, hr4, hg4⟩
  have HR4 : Hid (Rdr (w.heap.size + 1) (Bu.rtxt A3.2).2 w4) := hr4
  have HG4 : Hid (W0.grownBy w4 (some (w.heap.size + 1))) := gby_trans HG3.out hg4
  have HIM : Hid (lst im = (Bu.rtxt A3.2).1) := him
  clear hr4 hg4 him
  obtain ⟨A4, HA4⟩ := nm (Bu.rtxt A3.2)
  rw [HA4.out] at HR4 HIM
  go_wp2_with fail
  refine (rtext_any _ A4.2 _ HR4.out).mono ?_
  rintro e w5 ⟨inp, rfl, hinp, hr5, hg5⟩
  have HR5 : Hid (Rdr (w.heap.size + 1) (Bu.rtxt A4.2).2 w5) := hr5
  have HG5 : Hid (W0.grownBy w5 (some (w.heap.size + 1))) := gby_trans HG4.out hg5
  have HIN : Hid (lst inp = (Bu.rtxt A4.2).1) := hinp
  clear hr5 hg5 hinp
  obtain ⟨A5, HA5⟩ := nm (Bu.rtxt A4.2)
  rw [HA5.out] at HR5 HIN
  go_wp2_with fail
  refine (rsites_any _ A5.2 _ HR5.out).mono ?_
  rintro e w6 ⟨sv, rfl, hsv, hr6, hg6⟩
  have HR6 : Hid (Rdr (w.heap.size + 1) (Bu.rsites A5.2).2 w6) := hr6
  have HG6 : Hid (W0.grownBy w6 (some (w.heap.size + 1))) := gby_trans HG5.out hg6
  have HSV : Hid (w6.ownsRow (w.heap.size + 2) 54 2 sv (Bu.rsites A5.2).1.length (prs (Bu.rsites A5.2).1)) := rbase hsv (by have := HG5.out.size; omega)
  clear hr6 hg6 hsv
  obtain ⟨A6, HA6⟩ := nm (Bu.rsites A5.2)
  rw [HA6.out] at HR6 HSV
  obtain ⟨q6, c6, hvs, -⟩ := owns_shape HSV.out
  subst hvs
  go_wp2_with fail
  refine (redges_any _ A6.2 _ HR6.out).mono ?_
  rintro e w7 ⟨ev, rfl, hev, -, hg7⟩
  have HG7 : Hid (W0.grownBy w7 (some (w.heap.size + 1))) := gby_trans HG6.out hg7
  have HS7 : Hid (w7.ownsRow (w.heap.size + 2) 54 2 (.slice q6 A6.1.length c6) A6.1.length (prs A6.1)) := World.ownsRow.kept HSV.out hg7 (Or.inr (by intro e; have := (HSV.out.lt _ e).1; omega))
  have HEV : Hid (w7.ownsRow (w.heap.size + 2) 3 1 ev (Bu.redges A6.2).1.length (ints (Bu.redges A6.2).1)) := rbase hev (by have := HG6.out.size; omega)
  clear hg7 hev
  obtain ⟨A7, HA7⟩ := nm (Bu.redges A6.2)
  rw [HA7.out] at HEV
  obtain ⟨q7, c7, hve, -⟩ := owns_shape HEV.out
  subst hve
  have HPE : Hid (Bu.parse l = ⟨A1.1, A2.1, A3.1, A4.1, A5.1, A6.1, A7.1⟩) := by
    show Bu.parse l = ⟨A1.1, A2.1, A3.1, A4.1, A5.1, A6.1, A7.1⟩
    unfold Bu.parse
    dsimp only
    rw [HA1.out, HA2.out, HA3.out, HA4.out, HA5.out, HA6.out, HA7.out]
  have hgg := HG7.out
  rw [← HW0.out] at hgg
  obtain ⟨hbw, hblk⟩ := gby_new hgg (by omega)
  obtain ⟨d0, d1, d2, d3, d4, d5, d6⟩ := z7_of hblk
  have df : ∀ o, w7.frozen? ⟨w.heap.size, o, none⟩ = false := fun o => by simp [World.frozen?, hblk]
  have HBW : Hid (Below w.heap.size w w7) := hbw
  clear hgg hbw hblk
  go_wp2
  refine bodyPost_ret (v := .agg #[.string im, .int .i64 (A1.1 : Nat), .int .i64 (A2.1 : Nat), .string inp, .int .i64 (A3.1 : Nat), .slice q6 A6.1.length c6, .slice q7 A7.1.length c7]) (by simp [results, Tryz.results36, go_sem, d0, d1, d2, d3, d4, d5, d6]) rfl ?_
  unfold ParseP
  rw [HPE.out]
  exact ⟨im, inp, _, _, rfl, HIM.out, HIN.out, rbase (put7_owns HS7.out (by omega)) (by omega), rbase (put7_owns HEV.out (by omega)) (by omega), put7_below HBW.out (Nat.le_refl _)⟩
end Go.Proofs.YtbmaiioecnmopabGreatDoor

/-
  BUNDLES, THE PROGRAM's SIDE (package triage): edgesFit, sitesFit. By the verifier of the loop 'triage'.
-/
namespace Go.Proofs.YtbmaiioecnmopabGreatDoor
open Go.RowKit

set_option maxHeartbeats 1600000 in
set_option maxRecDepth 100000 in
theorem edgesFit_any (v : Value) (l : List Int) (w : World) (h : Rd w l.length v (inI l)) :
    Calls Tryz.prog 52 #[v] w fun e w' => e = .returned (.bool (edsOk (-1) l)) ∧ Below w.heap.size w w' := by
  obtain ⟨a, cap, hv, hn, hm, hc⟩ := h
  subst hv
  obtain ⟨len, HLEN⟩ := nm l.length
  rw [HLEN.out] at hc hn
  rw [HLEN.out]
  unfold maxLen at hm
  obtain ⟨q, HQ⟩ := nm (edsOk (-1) l)
  rw [HQ.out]
  go_enter Tryz.func52, Tryz.ntmps52
  go_wp2
  go_loopw [3, 8] (fun la i wr => ∃ (j : Nat) (last : Int), i = .int .i64 j ∧ j ≤ len ∧ la = .int .i64 last ∧ edsOk last (l.drop j) = q ∧ wr = w) (fun _ i _ => len - (intOf i).toNat)
  case atStart => exact ⟨0, -1, rfl, by omega, rfl, HQ.out, rfl⟩
  case round =>
    obtain ⟨j, last, rfl, hj, rfl, hq, rfl⟩ := hrel
    by_cases hlt : j < len
    · obtain ⟨g, o, rfl, hg, hx⟩ := hc (by omega)
      have x1 := hx j _ (inI_get l j (by rw [HLEN.out]; exact hlt))
      have HD := edsOk_drop last l j (by rw [HLEN.out]; exact hlt)
      rw [hq] at HD
      generalize l[j]?.getD 0 = x at *
      clear hq hx hc
      by_cases h1 : x ≤ last
      · have HF : Hid (q = false) := by
          show q = false
          rw [HD, decide_eq_false (by omega)]; rfl
        clear HD
        go_wp2
        go_ret
        exact ⟨by rw [HF.out]; rfl, Below.refl _ _⟩
      · by_cases h2 : 400 ≤ x
        · have HF : Hid (q = false) := by
            show q = false
            rw [HD, decide_eq_false (by omega)]; rfl
          clear HD
          go_wp2
          go_ret
          exact ⟨by rw [HF.out]; rfl, Below.refl _ _⟩
        · have HF : Hid (edsOk x (l.drop (j + 1)) = q) := by
            show edsOk x (l.drop (j + 1)) = q
            rw [HD, decide_eq_true (by omega)]; rfl
          clear HD
          go_wp2
          go_roundw
          case rel => exact ⟨j + 1, x, by go_num, by omega, rfl, HF.out, by first | exact trivial | rfl⟩
          case measure => simp [intOf]; omega
    · obtain rfl : j = len := by omega
      have HF : Hid (q = true) := by
        show q = true
        rw [← hq, List.drop_of_length_le (by rw [HLEN.out]; exact Nat.le_refl _)]; rfl
      clear hc hq
      go_wp2
      go_ret
      exact ⟨by rw [HF.out]; rfl, Below.refl _ _⟩

set_option maxHeartbeats 1600000 in
set_option maxRecDepth 100000 in
theorem sitesFit_any (v : Value) (l : List (Int × Int)) (w : World) (h : Rd w l.length v (prI l)) :
    Calls Tryz.prog 51 #[v] w fun e w' => e = .returned (.bool (stsOk l)) ∧ Below w.heap.size w w' := by
  obtain ⟨a, cap, hv, hn, hm, hc⟩ := h
  subst hv
  obtain ⟨len, HLEN⟩ := nm l.length
  rw [HLEN.out] at hc hn
  rw [HLEN.out]
  unfold maxLen at hm
  obtain ⟨q, HQ⟩ := nm (stsOk l)
  rw [HQ.out]
  go_enter Tryz.func51, Tryz.ntmps51
  go_wp2
  go_loopw [7] (fun i wr => ∃ (j : Nat), i = .int .i64 j ∧ j ≤ len ∧ stsOk (l.drop j) = q ∧ Below w.heap.size w wr) (fun i _ => len - (intOf i).toNat)
  case atStart => exact ⟨0, rfl, by omega, HQ.out, Below.refl _ _⟩
  case round =>
    obtain ⟨j, rfl, hj, hq, hb⟩ := hrel
    by_cases hlt : j < len
    · obtain ⟨g, o, rfl, hg, hx⟩ := hc (by omega)
      obtain ⟨q0, q1⟩ := prI_get l j (by rw [HLEN.out]; exact hlt)
      have y0 := (hb.cell (p := ⟨g, o + j * 2, none⟩) hg).trans (hx _ _ q0)
      have y1 := (hb.cell (p := ⟨g, o + (j * 2 + 1), none⟩) hg).trans (hx _ _ q1)
      rw [← Nat.add_assoc] at y1
      have HD := stsOk_drop l j (by rw [HLEN.out]; exact hlt)
      rw [hq] at HD
      have HB : Hid (Below w.heap.size w wr) := hb
      have hsz := hb.size
      generalize l[j]?.getD (0, 0) = x at *
      obtain ⟨x0, x1⟩ := x
      dsimp only at y0 y1
      clear hq hx hc hb q0 q1
      by_cases hok : 0 ≤ x0 ∧ x0 < 6 ∧ 0 ≤ x1 ∧ x1 < 200
      · have HF : Hid (stsOk (l.drop (j + 1)) = q) := by
          show stsOk (l.drop (j + 1)) = q
          rw [HD]; unfold stOk; rw [decide_eq_true hok]; rfl
        obtain ⟨h1, h2, h3, h4⟩ := hok
        clear HD
        go_wp2
        go_roundw
        case rel => exact ⟨j + 1, by go_num, by omega, HF.out, HB.out.alloc HB.out.size _⟩
        case measure => simp [intOf]; omega
      · have HF : Hid (q = false) := by
          show q = false
          rw [HD]; unfold stOk; rw [decide_eq_false hok]; rfl
        clear HD
        by_cases h1 : x0 < 0
        · go_wp2
          go_ret
          exact ⟨by rw [HF.out]; rfl, HB.out.alloc HB.out.size _⟩
        · by_cases h2 : 6 ≤ x0
          · go_wp2
            go_ret
            exact ⟨by rw [HF.out]; rfl, HB.out.alloc HB.out.size _⟩
          · by_cases h3 : x1 < 0
            · go_wp2
              go_ret
              exact ⟨by rw [HF.out]; rfl, HB.out.alloc HB.out.size _⟩
            · have h4 : 200 ≤ x1 := by omega
              go_wp2
              go_ret
              exact ⟨by rw [HF.out]; rfl, HB.out.alloc HB.out.size _⟩
    · obtain rfl : j = len := by omega
      have HF : Hid (q = true) := by
        show q = true
        rw [← hq, List.drop_of_length_le (by rw [HLEN.out]; exact Nat.le_refl _)]; rfl
      have HB : Hid (Below w.heap.size w wr) := hb
      clear hc hq hb
      go_wp2
      go_ret
      exact ⟨by rw [HF.out]; rfl, HB.out⟩
end Go.Proofs.YtbmaiioecnmopabGreatDoor
