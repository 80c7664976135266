/-
  THE PROGRAM's SIDE (package triage): the memory of a program that is read; decode. By the verifier of the loop 'triage'.
-/
import Derived.Test.YthljaemhgkepoaaDoorCodeA
import Derived.BigRegion
namespace Go.Proofs.YthljaemhgkepoaaDoor
open Go.RowKit

/-- how many numbers an op takes. -/
def tk (op : Nat) : Nat := if op = 2 ∨ op = 3 ∨ op = 11 ∨ op = 15 then 1 else if (4 ≤ op ∧ op ≤ 9) ∨ op = 16 then 2 else 0
/-- the byte behind an op that has one. -/
def ar (s : ByteArray) (i : Nat) : Nat := if Im.sz (Im.bt s i) = 2 then Im.bt s (i + 1) else 0

/-- THE MEMORY of a program that is read: its struct at bp, the functions' first places at bs, the code at bc; D: the places that are filled in. -/
structure Mem (s : ByteArray) (n bp bs bc cs : Nat) (D : List Nat) (w : World) : Prop where
  starts : w.cell? ⟨bp, 0, none⟩ = some (.slice (some ⟨bs, 0, none⟩) (n + 1) cs)
  code : w.cell? ⟨bp, 1, none⟩ = some (.slice (some ⟨bc, 0, none⟩) s.size s.size)
  st : ∀ j, j ≤ n → w.cell? ⟨bs, j, none⟩ = some (.int .i64 (Im.st s j : Nat))
  c0 : ∀ i, i < s.size → w.cell? ⟨bc, i * 4, none⟩ = some (.int .i64 (if i ∈ D then tk (Im.bt s i) else 0 : Nat))
  c1 : ∀ i, i < s.size → w.cell? ⟨bc, i * 4 + 1, none⟩ = some (.int .i64 (if i ∈ D then Im.sz (Im.bt s i) else 0 : Nat))
  c2 : ∀ i, i < s.size → w.cell? ⟨bc, i * 4 + 2, none⟩ = some (.int .u8 (if i ∈ D then Im.bt s i else 0 : Nat))
  c3 : ∀ i, i < s.size → w.cell? ⟨bc, i * 4 + 3, none⟩ = some (.int .u8 (if i ∈ D then ar s i else 0 : Nat))
  frz : ∀ o, w.frozen? ⟨bc, o, none⟩ = false
  tab0 : ∀ op, op < 18 → w.cell? ⟨2, op * 2, none⟩ = some (.int .i64 (tk op : Nat))
  tab1 : ∀ op, op < 18 → w.cell? ⟨2, op * 2 + 1, none⟩ = some (.int .i64 (Im.sz op : Nat))
  ltp : bp < w.heap.size
  lts : bs < w.heap.size
  ltc : bc < w.heap.size
  nep : bp ≠ bc
  nes : bs ≠ bc
  net : 2 ≠ bc

theorem gr_trans {b : Nat} {w w1 w2 : World} (h : w.grownBy w1 (some b)) (k : w1.grownBy w2 (some b)) : w.grownBy w2 (some b) :=
  ⟨k.os.trans h.os, k.tape.trans h.tape, k.output.trans h.output, Nat.le_trans h.size k.size, fun j hj hne => (k.block j (Nat.lt_of_lt_of_le hj h.size) hne).trans (h.block j hj hne)⟩
theorem gr_setCell {b : Nat} {w w1 : World} (h : w.grownBy w1 (some b)) (o : Nat) (v : Value) : w.grownBy (w1.setCell ⟨b, o, none⟩ v) (some b) :=
  gr_trans h ⟨rfl, rfl, rfl, by simp, fun j _ hne => Below.heap_setCell _ _ _ _ (fun e => hne (by rw [e]))⟩
theorem gr_drew {b : Nat} {w w1 : World} (h : w.grownBy w1 (some b)) : w.grownBy w1.drew (some b) := gr_trans h ⟨rfl, rfl, rfl, Nat.le_refl _, fun _ _ _ => rfl⟩
theorem gr_alloc {b : Nat} {w w1 : World} (h : w.grownBy w1 (some b)) (o : Obj) : w.grownBy (w1.alloc o) (some b) := gr_trans h (World.grownBy_alloc _ _ _)

theorem Mem.put {s : ByteArray} {n bp bs bc cs : Nat} {D : List Nat} {w w' : World} (hM : Mem s n bp bs bc cs D w) (c : Nat) (hg : w.grownBy w' (some bc))
    (hb : ∀ o, o < c * 4 ∨ c * 4 + 4 ≤ o → w'.cell? ⟨bc, o, none⟩ = w.cell? ⟨bc, o, none⟩) (hfr : ∀ o, w'.frozen? ⟨bc, o, none⟩ = false)
    (h0 : w'.cell? ⟨bc, c * 4, none⟩ = some (.int .i64 (tk (Im.bt s c) : Nat))) (h1 : w'.cell? ⟨bc, c * 4 + 1, none⟩ = some (.int .i64 (Im.sz (Im.bt s c) : Nat)))
    (h2 : w'.cell? ⟨bc, c * 4 + 2, none⟩ = some (.int .u8 (Im.bt s c : Nat))) (h3 : w'.cell? ⟨bc, c * 4 + 3, none⟩ = some (.int .u8 (ar s c : Nat))) : Mem s n bp bs bc cs (D ++ [c]) w' where
  starts := hg.cell hM.starts (by simpa using hM.nep)
  code := hg.cell hM.code (by simpa using hM.nep)
  st j hj := hg.cell (hM.st j hj) (by simpa using hM.nes)
  c0 i hi := by
    by_cases he : i = c
    · subst he; rw [h0, if_pos (by simp)]
    · rw [hb _ (by omega), hM.c0 i hi]; simp [he]
  c1 i hi := by
    by_cases he : i = c
    · subst he; rw [h1, if_pos (by simp)]
    · rw [hb _ (by omega), hM.c1 i hi]; simp [he]
  c2 i hi := by
    by_cases he : i = c
    · subst he; rw [h2, if_pos (by simp)]
    · rw [hb _ (by omega), hM.c2 i hi]; simp [he]
  c3 i hi := by
    by_cases he : i = c
    · subst he; rw [h3, if_pos (by simp)]
    · rw [hb _ (by omega), hM.c3 i hi]; simp [he]
  frz := hfr
  tab0 op h := hg.cell (hM.tab0 op h) (by simpa using hM.net)
  tab1 op h := hg.cell (hM.tab1 op h) (by simpa using hM.net)
  ltp := Nat.lt_of_lt_of_le hM.ltp hg.size
  lts := Nat.lt_of_lt_of_le hM.lts hg.size
  ltc := Nat.lt_of_lt_of_le hM.ltc hg.size
  nep := hM.nep
  nes := hM.nes
  net := hM.net
/-- what is kept where nothing old turns. -/
theorem Mem.below {s : ByteArray} {n bp bs bc cs : Nat} {D : List Nat} {w w' : World} (hM : Mem s n bp bs bc cs D w) (hg : Below w.heap.size w w') : Mem s n bp bs bc cs D w' where
  starts := (hg.cell (p := ⟨bp, 0, none⟩) hM.ltp).trans hM.starts
  code := (hg.cell (p := ⟨bp, 1, none⟩) hM.ltp).trans hM.code
  st j hj := (hg.cell (p := ⟨bs, j, none⟩) hM.lts).trans (hM.st j hj)
  c0 i hi := (hg.cell (p := ⟨bc, _, none⟩) hM.ltc).trans (hM.c0 i hi)
  c1 i hi := (hg.cell (p := ⟨bc, _, none⟩) hM.ltc).trans (hM.c1 i hi)
  c2 i hi := (hg.cell (p := ⟨bc, _, none⟩) hM.ltc).trans (hM.c2 i hi)
  c3 i hi := (hg.cell (p := ⟨bc, _, none⟩) hM.ltc).trans (hM.c3 i hi)
  frz o := (hg.frozen (p := ⟨bc, o, none⟩) hM.ltc).trans (hM.frz o)
  tab0 op h := (hg.cell (p := ⟨2, op * 2, none⟩) (World.block_lt_of_cell? w _ (hM.tab0 op h))).trans (hM.tab0 op h)
  tab1 op h := (hg.cell (p := ⟨2, op * 2 + 1, none⟩) (World.block_lt_of_cell? w _ (hM.tab1 op h))).trans (hM.tab1 op h)
  ltp := Nat.lt_of_lt_of_le hM.ltp hg.size
  lts := Nat.lt_of_lt_of_le hM.lts hg.size
  ltc := Nat.lt_of_lt_of_le hM.ltc hg.size
  nep := hM.nep
  nes := hM.nes
  net := hM.net

/-- the cells behind the stores of one instruction. -/
theorem put4 {w : World} {bc c : Nat} {v0 v1 v2 v3 : Value} {x0 x1 x2 x3 : Value} (q0 : w.cell? ⟨bc, c * 4, none⟩ = some x0) (q1 : w.cell? ⟨bc, c * 4 + 1, none⟩ = some x1) (q2 : w.cell? ⟨bc, c * 4 + 2, none⟩ = some x2) (q3 : w.cell? ⟨bc, c * 4 + 3, none⟩ = some x3) :
    let w' := (((w.setCell ⟨bc, c * 4, none⟩ v0).setCell ⟨bc, c * 4 + 1, none⟩ v1).setCell ⟨bc, c * 4 + 2, none⟩ v2).setCell ⟨bc, c * 4 + 3, none⟩ v3
    w'.cell? ⟨bc, c * 4, none⟩ = some v0 ∧ w'.cell? ⟨bc, c * 4 + 1, none⟩ = some v1 ∧ w'.cell? ⟨bc, c * 4 + 2, none⟩ = some v2 ∧ w'.cell? ⟨bc, c * 4 + 3, none⟩ = some v3 ∧
      (∀ o, o < c * 4 ∨ c * 4 + 4 ≤ o → w'.cell? ⟨bc, o, none⟩ = w.cell? ⟨bc, o, none⟩) ∧ (∀ a, w'.frozen? a = w.frozen? a) ∧ w.grownBy w' (some bc) := by
  intro w'
  have oth : ∀ (w : World) (o p : Nat) (v : Value), o ≠ p → (w.setCell ⟨bc, o, none⟩ v).cell? ⟨bc, p, none⟩ = w.cell? ⟨bc, p, none⟩ := fun w o p v _ => World.cell?_setCell_other _ _ _ _ (by simp)
  refine ⟨?_, ?_, ?_, ?_, ?_, ?_, ?_⟩
  · show ((((w.setCell _ _).setCell _ _).setCell _ _).setCell _ _).cell? _ = _
    rw [oth _ _ _ _ (by omega), oth _ _ _ _ (by omega), oth _ _ _ _ (by omega), World.cell?_setCell_same _ _ _ q0]
  · show ((((w.setCell _ _).setCell _ _).setCell _ _).setCell _ _).cell? _ = _
    rw [oth _ _ _ _ (by omega), oth _ _ _ _ (by omega), World.cell?_setCell_same _ _ _ ((oth _ _ _ _ (by omega)).trans q1)]
  · show ((((w.setCell _ _).setCell _ _).setCell _ _).setCell _ _).cell? _ = _
    rw [oth _ _ _ _ (by omega), World.cell?_setCell_same _ _ _ ((oth _ _ _ _ (by omega)).trans ((oth _ _ _ _ (by omega)).trans q2))]
  · show ((((w.setCell _ _).setCell _ _).setCell _ _).setCell _ _).cell? _ = _
    rw [World.cell?_setCell_same _ _ _ ((oth _ _ _ _ (by omega)).trans ((oth _ _ _ _ (by omega)).trans ((oth _ _ _ _ (by omega)).trans q3)))]
  · intro o ho
    show ((((w.setCell _ _).setCell _ _).setCell _ _).setCell _ _).cell? _ = _
    rw [oth _ _ _ _ (by omega), oth _ _ _ _ (by omega), oth _ _ _ _ (by omega), oth _ _ _ _ (by omega)]
  · intro a
    show ((((w.setCell _ _).setCell _ _).setCell _ _).setCell _ _).frozen? _ = _
    simp [World.frozen?_setCell]
  · exact gr_setCell (gr_setCell (gr_setCell (gr_setCell (World.grownBy.refl w _) _ _) _ _) _ _) _ _

theorem Mem.put4 {s : ByteArray} {n bp bs bc cs : Nat} {D : List Nat} {w : World} (hM : Mem s n bp bs bc cs D w) (c op v : Nat) (hc : c < s.size) (hop : Im.bt s c = op) (hv : ar s c = v) :
    Mem s n bp bs bc cs (D ++ [c]) ((((w.setCell ⟨bc, c * 4, none⟩ (.int .i64 (tk op : Nat))).setCell ⟨bc, c * 4 + 1, none⟩ (.int .i64 (Im.sz op : Nat))).setCell ⟨bc, c * 4 + 2, none⟩ (.int .u8 (op : Nat))).setCell ⟨bc, c * 4 + 3, none⟩ (.int .u8 (v : Nat))) ∧
    w.grownBy ((((w.setCell ⟨bc, c * 4, none⟩ (.int .i64 (tk op : Nat))).setCell ⟨bc, c * 4 + 1, none⟩ (.int .i64 (Im.sz op : Nat))).setCell ⟨bc, c * 4 + 2, none⟩ (.int .u8 (op : Nat))).setCell ⟨bc, c * 4 + 3, none⟩ (.int .u8 (v : Nat))) (some bc) := by
  subst hop hv
  obtain ⟨h0, h1, h2, h3, h4, h5, h6⟩ := @Go.Proofs.YthljaemhgkepoaaDoor.put4 w bc c (.int .i64 (tk (Im.bt s c) : Nat)) (.int .i64 (Im.sz (Im.bt s c) : Nat)) (.int .u8 (Im.bt s c : Nat)) (.int .u8 (ar s c : Nat)) _ _ _ _ (hM.c0 c hc) (hM.c1 c hc) (hM.c2 c hc) (hM.c3 c hc)
  exact ⟨hM.put c h6 h4 (fun o => (h5 _).trans (hM.frz o)) h0 h1 h2 h3, h6⟩
theorem Mem.drew {s : ByteArray} {n bp bs bc cs : Nat} {D : List Nat} {w : World} (hM : Mem s n bp bs bc cs D w) : Mem s n bp bs bc cs D w.drew := hM.below ((Below.refl _ _).drew)
theorem set_again (w : World) (b o : Nat) (u v : Value) : (w.setCell ⟨b, o, none⟩ u).setCell ⟨b, o, none⟩ v = w.setCell ⟨b, o, none⟩ v := by
  have h : ∀ (H : Array Obj) (f g : Obj → Obj), (∀ x, g (f x) = g x) → (H.modify b f).modify b g = H.modify b g := by
    intro H f g hfg
    apply Array.ext
    · simp
    · intro i h1 h2
      simp only [Array.getElem_modify]
      split
      · exact hfg _
      · rfl
  have h2 := h w.heap (fun | .cells c elem frozen => .cells (c.setIfInBounds o u) elem frozen | x => x) (fun | .cells c elem frozen => .cells (c.setIfInBounds o v) elem frozen | x => x) (by
    intro x
    cases x <;> simp [Array.setIfInBounds_setIfInBounds])
  show ({ w with heap := _ } : World) = { w with heap := _ }
  congr 1

/-- how decode ends. -/
def DecPost (s : ByteArray) (n f bp bs bc cs : Nat) (D : List Nat) (w w' : World) (e : Ending) : Prop :=
  (Im.gOp s f = none ∧ e = .returned .nilIface ∧ Mem s n bp bs bc cs (D ++ (Im.fn s f).1) w' ∧ w.grownBy w' (some bc)) ∨
  (∃ p er, Im.gOp s f = some p ∧ e = .returned er ∧ Flawed w.heap.size w' er 3 p ∧ w.grownBy w' (some bc))

set_option maxHeartbeats 4000000 in
set_option maxRecDepth 100000 in
theorem decode_any (s : ByteArray) (n f bp bs bc cs : Nat) (D : List Nat) (w : World) (hs : s.size ≤ 200) (hn : n ≤ 6) (hf : f < n)
    (h1 : Im.st s f < Im.st s (f + 1)) (h2 : Im.st s (f + 1) ≤ s.size) (hM : Mem s n bp bs bc cs D w) :
    Calls Tryd.prog 39 #[.pointer (some ⟨bp, 0, none⟩), .string s, .int .i64 f] w fun e w' => DecPost s n f bp bs bc cs D w w' e := by
  have m1 := hM.starts
  have m2 := hM.st f (by omega)
  have m3 := hM.st (f + 1) (by omega)
  have HF : Hid (Im.fn s f = Im.run s (Im.st s (f + 1)) (Im.st s f)) := rfl
  generalize Im.st s (f + 1) = q at *
  generalize Im.st s f = p at *
  go_enter Tryd.func39, Tryd.ntmps39
  go_wp2
  go_loopw [8] (fun i wr => ∃ (c : Nat) (L : List Nat), i = .int .i64 c ∧ c ≤ q ∧ Hid (Im.fn s f = (L ++ (Im.run s q c).1, (Im.run s q c).2)) ∧ Mem s n bp bs bc cs (D ++ L) wr ∧ w.grownBy wr (some bc))
    (fun i _ => q - (intOf i).toNat)
  case atStart => exact ⟨_, [], rfl, by omega, HF, by rw [List.append_nil]; exact hM, World.grownBy.refl _ _⟩
  case round =>
    obtain ⟨c, L, rfl, hc, HR, hM2, hgr⟩ := hrel
    by_cases hlt : c < q
    · have hcs : c < s.size := by omega
      have hop := Im.bt_eq s c hcs
      have hop256 := Im.bt_lt s c
      have q0 := hM2.c0 c hcs
      have q1 := hM2.c1 c hcs
      have q2 := hM2.c2 c hcs
      have q3 := hM2.c3 c hcs
      have HBAD : Hid ((Im.sz (Im.bt s c) = 0 ∨ q < c + Im.sz (Im.bt s c)) → Im.fn s f = (L, some c)) := fun hb => by rw [HR.out, Im.run_bad s q c hlt hb]; simp
      have HGO : Hid (¬ (Im.sz (Im.bt s c) = 0 ∨ q < c + Im.sz (Im.bt s c)) → Im.fn s f = (L ++ [c] ++ (Im.run s q (c + Im.sz (Im.bt s c))).1, (Im.run s q (c + Im.sz (Im.bt s c))).2)) := fun hb => by rw [HR.out, Im.run_step s q c hlt hb]; simp
      have HAR : Hid (ar s c = if Im.sz (Im.bt s c) = 2 then Im.bt s (c + 1) else 0) := rfl
      obtain ⟨op, HOP⟩ : ∃ op, Hid (Im.bt s c = op) := ⟨_, rfl⟩
      rw [HOP.out] at hop hop256 q0 q1 q2 HBAD HGO HAR
      clear HR
      by_cases hop18 : op < 18
      · have m4 := hM2.tab0 op hop18
        have m5 := hM2.tab1 op hop18
        have m6 := hM2.code
        have f0 := hM2.frz (c * 4)
        have f1 := hM2.frz (c * 4 + 1)
        have f2 := hM2.frz (c * 4 + 2)
        have f3 := hM2.frz (c * 4 + 3)
        have hszp : 1 ≤ Im.sz op := by unfold Im.sz; rw [if_neg (by omega)]; split <;> omega
        have hsz2 := Im.sz_le op
        by_cases hle : c + Im.sz op ≤ q
        · have hnp := hM2.nep
          have hnt := hM2.net
          have HE := HGO.out (by omega)
          have HE2 : Hid (Im.fn s f = (L ++ [c] ++ (Im.run s q (c + Im.sz op)).1, (Im.run s q (c + Im.sz op)).2)) := HE
          clear HE HGO HBAD
          by_cases h2' : Im.sz op = 2
          · have e2 : ((Im.sz op : Int) == 2) = true := by simp [h2']
            have hc1 : c + 1 < s.size := by omega
            have hnn := Im.bt_eq s (c + 1) hc1
            have HAR2 : Hid (ar s c = Im.bt s (c + 1)) := by rw [HAR.out, if_pos h2']; rfl
            generalize Im.bt s (c + 1) = n2 at *
            clear h2'
            obtain ⟨hP, hG⟩ := hM2.put4 c op n2 hcs HOP.out HAR2.out
            rw [List.append_assoc] at hP
            have hPG : Hid (_ ∧ _) := And.intro hP (gr_trans hgr hG)
            clear hP hG
            go_wp2
            go_region
            go_wp2
            go_region
            go_wp2
            go_roundw
            case rel =>
              refine ⟨c + Im.sz op, L ++ [c], by go_num, by omega, HE2, ?_, ?_⟩
              · rw [set_again]; exact hPG.out.1.drew.drew
              · rw [set_again]; exact gr_drew (gr_drew hPG.out.2)
            case measure => simp [intOf]; omega
          · have e2 : ((Im.sz op : Int) == 2) = false := by rw [beq_eq_false_iff_ne]; omega
            have HAR2 : Hid (ar s c = 0) := by rw [HAR.out, if_neg h2']; rfl
            clear h2'
            obtain ⟨hP, hG⟩ := hM2.put4 c op 0 hcs HOP.out HAR2.out
            rw [List.append_assoc] at hP
            have hPG : Hid (_ ∧ _) := And.intro hP (gr_trans hgr hG)
            clear hP hG
            go_wp2
            go_region
            go_wp2
            go_roundw
            case rel => exact ⟨c + Im.sz op, L ++ [c], by go_num, by omega, HE2, hPG.out.1.drew, gr_drew hPG.out.2⟩
            case measure => simp [intOf]; omega
        · have HE := HBAD.out (by omega)
          have HE2 : Hid (Im.fn s f = (L, some c)) := HE
          clear HE HGO HBAD
          go_wp2
          go_ret
          exact Or.inr ⟨c, _, by unfold Im.gOp; rw [HE2.out], rfl, flawed_in hgr.size 3 c, gr_alloc hgr _⟩
      · have HE := HBAD.out (Or.inl (by unfold Im.sz; rw [if_pos (by omega)]))
        have HE2 : Hid (Im.fn s f = (L, some c)) := HE
        clear HE HGO HBAD
        go_wp2
        go_ret
        exact Or.inr ⟨c, _, by unfold Im.gOp; rw [HE2.out], rfl, flawed_in hgr.size 3 c, gr_alloc hgr _⟩
    · have HE : Hid (Im.fn s f = (L, none)) := by
        show Im.fn s f = _
        rw [HR.out, Im.run_end s q c hlt]; simp
      go_wp2
      go_ret
      exact Or.inl ⟨by unfold Im.gOp; rw [HE.out], rfl, by rw [HE.out]; exact hM2, hgr⟩
end Go.Proofs.YthljaemhgkepoaaDoor
