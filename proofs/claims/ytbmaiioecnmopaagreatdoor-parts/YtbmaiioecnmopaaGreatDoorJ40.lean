/-
  PaB, PaC: THESE TEXTS, JOINED. By the verifier of the loop 'triage'.
-/
import Derived.Test.YtbmaiioecnmopaaGreatDoorJ39
import Derived.Deep.AppendLies
/-
  THE LAW Parts: same. By the verifier of the loop 'triage'.
-/
namespace Go.Proofs.YtbmaiioecnmopaaGreatDoor
open Go.RowKit

set_option maxHeartbeats 3200000 in
set_option maxRecDepth 100000 in
theorem lsame_any (A B : Nat) (p q : Rp) (d : Nat) (sv ev sv' ev' : Value) (w : World) (hp : p.sts.length ≤ 8) (hq : q.sts.length ≤ 8) (hd : d ≤ 6) (hS : w.ownsRow A 34 2 sv p.sts.length (prs p.sts)) (hS' : w.ownsRow B 34 2 sv' q.sts.length (prs q.sts)) (hE : ∃ a n c, ev = .slice a n c) (hE' : ∃ a n c, ev' = .slice a n c) :
    Calls Tryz.prog 13 #[.agg #[.int .i64 (p.fa : Nat), .int .i64 (p.pa : Nat), .int .i64 (p.kd : Nat), .int .i64 (p.en : Nat), sv, ev, .int .i64 (p.k : Nat), .int .i64 p.top], .agg #[.int .i64 (q.fa : Nat), .int .i64 (q.pa : Nat), .int .i64 (q.kd : Nat), .int .i64 (q.en : Nat), sv', ev', .int .i64 (q.k : Nat), .int .i64 q.top], .int .i64 (d : Nat)] w fun e w' => e = .returned (.bool (decide (p.kd = q.kd ∧ p.sts.take d = q.sts.take d))) ∧ Below w.heap.size w w' := by
  obtain ⟨ae, ne, ce, rfl⟩ := hE
  obtain ⟨af, nf, cf, rfl⟩ := hE'
  obtain ⟨as1, c1, hv1, hn1, hm1, hx1⟩ := owns_shape hS
  obtain ⟨as2, c2, hv2, hn2, hm2, hx2⟩ := owns_shape hS'
  subst hv1 hv2
  obtain ⟨en, fa, pa, kd, sts, eds, k, top⟩ := p
  obtain ⟨en', fa', pa', kd', sts', eds', k', top'⟩ := q
  dsimp only at *
  obtain ⟨D, HD⟩ : ∃ D, Hid (decide (kd = kd' ∧ sts.take d = sts'.take d) = D) := ⟨_, rfl⟩
  rw [HD.out]
  have HX1 : Hid (0 < sts.length → ∃ g, as1 = some ⟨g, 0, none⟩ ∧ A ≤ g ∧ g < w.heap.size ∧ ∀ i u, (prs sts)[i]? = some u → w.cell? ⟨g, i, none⟩ = some u) := hx1
  have HX2 : Hid (0 < sts'.length → ∃ g, as2 = some ⟨g, 0, none⟩ ∧ B ≤ g ∧ g < w.heap.size ∧ ∀ i u, (prs sts')[i]? = some u → w.cell? ⟨g, i, none⟩ = some u) := hx2
  obtain ⟨n1, HN1⟩ : ∃ n1, Hid (sts.length = n1) := ⟨_, rfl⟩
  obtain ⟨n2, HN2⟩ : ∃ n2, Hid (sts'.length = n2) := ⟨_, rfl⟩
  rw [HN1.out] at hp HX1
  rw [HN2.out] at hq HX2
  rw [HN1.out, HN2.out]
  clear hS hS' hx1 hx2 hn1 hn2 hm1 hm2
  go_enter Tryz.func13, Tryz.ntmps13
  by_cases hk : kd = kd'
  · subst hk
    go_wp2
    obtain ⟨W0, HW0⟩ : ∃ W0, Hid ((w.alloc (.cells #[.int .i64 (fa : Nat), .int .i64 (pa : Nat), .int .i64 (kd : Nat), .int .i64 (en : Nat), .slice as1 n1 c1, .slice ae ne ce, .int .i64 (k : Nat), .int .i64 top] 39)).alloc (.cells #[.int .i64 (fa' : Nat), .int .i64 (pa' : Nat), .int .i64 (kd : Nat), .int .i64 (en' : Nat), .slice as2 n2 c2, .slice af nf cf, .int .i64 (k' : Nat), .int .i64 top'] 39) = W0) := ⟨_, rfl⟩
    rw [HW0.out]
    have HBW : Hid (Below w.heap.size w W0) := by show Below _ _ W0; rw [← HW0.out]; exact ((Below.refl _ _).alloc (Nat.le_refl _) _).alloc (by simp) _
    have hz : W0.heap.size = w.heap.size + 2 := by rw [← HW0.out]; simp
    have HC : Hid (W0.cell? ⟨w.heap.size, 4, none⟩ = some (.slice as1 n1 c1) ∧ W0.cell? ⟨w.heap.size + 1, 4, none⟩ = some (.slice as2 n2 c2)) := by
      show _ ∧ _
      rw [← HW0.out]
      constructor
      · exact rcell_of ((Below.heap_alloc _ _ _ (by simp)).trans (rheap_new _ _)) rfl
      · have := rheap_new (w.alloc (.cells #[.int .i64 (fa : Nat), .int .i64 (pa : Nat), .int .i64 (kd : Nat), .int .i64 (en : Nat), .slice as1 n1 c1, .slice ae ne ce, .int .i64 (k : Nat), .int .i64 top] 39)) (.cells #[.int .i64 (fa' : Nat), .int .i64 (pa' : Nat), .int .i64 (kd : Nat), .int .i64 (en' : Nat), .slice as2 n2 c2, .slice af nf cf, .int .i64 (k' : Nat), .int .i64 top'] 39)
        rw [World.size_alloc] at this
        exact rcell_of this rfl
    clear HW0
    go_loopw [7] (fun iv wr => ∃ t : Nat, iv = .int .i64 t ∧ t ≤ d ∧ sts.take t = sts'.take t ∧ Below W0.heap.size W0 wr) (fun iv _ => d - (intOf iv).toNat)
    case atStart => exact ⟨0, rfl, by omega, rfl, Below.refl _ _⟩
    case round =>
      obtain ⟨t, rfl, ht, hT, hb⟩ := hrel
      have s1 := (hb.cell (p := ⟨w.heap.size, 4, none⟩) (by show w.heap.size < W0.heap.size; omega)).trans HC.out.1
      have s2 := (hb.cell (p := ⟨w.heap.size + 1, 4, none⟩) (by show w.heap.size + 1 < W0.heap.size; omega)).trans HC.out.2
      have HBr : Hid (Below w.heap.size w wr) := HBW.out.trans (hb.mono HBW.out.size)
      have HB0 : Hid (Below W0.heap.size W0 wr) := hb
      by_cases htd : t < d
      · have d0 : decide ((t : Int) < (d : Int)) = true := decide_eq_true (by omega)
        by_cases h1 : t < n1
        · have d1 : decide ((t : Int) < (n1 : Int)) = true := decide_eq_true (by omega)
          have d1' : (t : Int) < (n1 : Int) := by omega
          by_cases h2 : t < n2
          · have d2 : decide ((t : Int) < (n2 : Int)) = true := decide_eq_true (by omega)
            have d2' : (t : Int) < (n2 : Int) := by omega
            obtain ⟨g1, rfl, -, hg1, hx1⟩ := HX1.out (by omega)
            obtain ⟨g2, rfl, -, hg2, hx2⟩ := HX2.out (by omega)
            obtain ⟨q0, q1⟩ := prs_get sts t (by rw [HN1.out]; exact h1)
            obtain ⟨r0, r1⟩ := prs_get sts' t (by rw [HN2.out]; exact h2)
            have x1 := (HBr.out.cell (p := ⟨g1, t * 2, none⟩) hg1).trans (hx1 _ _ q0)
            have y1 := (HBr.out.cell (p := ⟨g1, t * 2 + 1, none⟩) hg1).trans (hx1 _ _ q1)
            have x2 := (HBr.out.cell (p := ⟨g2, t * 2, none⟩) hg2).trans (hx2 _ _ r0)
            have y2 := (HBr.out.cell (p := ⟨g2, t * 2 + 1, none⟩) hg2).trans (hx2 _ _ r1)
            have HTE : Hid (sts[t]?.getD (0, 0) = sts'[t]?.getD (0, 0) → sts.take (t + 1) = sts'.take (t + 1)) := fun h => take_ext (by rw [HN1.out]; exact h1) (by rw [HN2.out]; exact h2) (0, 0) hT h
            have HNE : Hid (sts[t]?.getD (0, 0) ≠ sts'[t]?.getD (0, 0) → D = false) := by
              show _ → D = false
              intro h
              rw [← HD.out]
              exact decide_eq_false fun e => take_get_ne htd h e.2
            generalize sts[t]?.getD (0, 0) = x at *
            generalize sts'[t]?.getD (0, 0) = y at *
            obtain ⟨xa, xb⟩ := x
            obtain ⟨ya, yb⟩ := y
            dsimp only at x1 x2 y1 y2
            clear hx1 hx2 q0 q1 r0 r1 hT hb
            by_cases e1 : xa = ya
            · subst e1
              by_cases e2 : xb = yb
              · subst e2
                have HT : Hid (sts.take (t + 1) = sts'.take (t + 1)) := HTE.out rfl
                clear HTE HNE
                go_wp2
                go_quiet (fail)
                go_wp2
                go_roundw
                case rel => exact ⟨t + 1, by go_num, by omega, HT.out, by first | exact HB0.out | exact below_drewP _ HB0.out | exact below_drewP _ (below_drewP _ HB0.out)⟩
                case measure => simp [intOf]; omega
              · have b2 : (((xb : Nat) : Int) == ((yb : Nat) : Int)) = false := by simp; omega
                have HF : Hid (D = false) := HNE.out (by rintro ⟨⟩; exact e2 rfl)
                clear HTE HNE
                go_wp2
                go_quiet (fail)
                go_wp2
                go_ret
                exact ⟨by rw [HF.out]; first | done | rfl, by first | exact HBr.out | exact below_drewP _ HBr.out | exact below_drewP _ (below_drewP _ HBr.out)⟩
            · have b2 : (((xa : Nat) : Int) == ((ya : Nat) : Int)) = false := by simp; omega
              have HF : Hid (D = false) := HNE.out (by rintro ⟨⟩; exact e1 rfl)
              clear HTE HNE
              go_wp2
              go_quiet (fail)
              go_wp2
              go_ret
              exact ⟨by rw [HF.out]; first | done | rfl, by first | exact HBr.out | exact below_drewP _ HBr.out | exact below_drewP _ (below_drewP _ HBr.out)⟩
          · have d2 : decide ((t : Int) < (n2 : Int)) = false := decide_eq_false (by omega)
            have HF : Hid (D = false) := by show D = false; rw [← HD.out]; exact decide_eq_false fun e => take_len_ne htd (by rw [HN1.out]; exact h1) (by rw [HN2.out]; exact h2) e.2
            clear hT hb
            go_wp2
            go_ret
            exact ⟨by rw [HF.out]; first | done | rfl, by first | exact HBr.out | exact below_drewP _ HBr.out | exact below_drewP _ (below_drewP _ HBr.out)⟩
        · have d1 : decide ((t : Int) < (n1 : Int)) = false := decide_eq_false (by omega)
          by_cases h2 : t < n2
          · have d2 : decide ((t : Int) < (n2 : Int)) = true := decide_eq_true (by omega)
            have HF : Hid (D = false) := by show D = false; rw [← HD.out]; exact decide_eq_false fun e => take_len_ne htd (by rw [HN2.out]; exact h2) (by rw [HN1.out]; exact h1) e.2.symm
            clear hT hb
            go_wp2
            go_ret
            exact ⟨by rw [HF.out]; first | done | rfl, by first | exact HBr.out | exact below_drewP _ HBr.out | exact below_drewP _ (below_drewP _ HBr.out)⟩
          · have d2 : decide ((t : Int) < (n2 : Int)) = false := decide_eq_false (by omega)
            have HT : Hid (sts.take (t + 1) = sts'.take (t + 1)) := take_same_end hT (by rw [HN1.out]; omega) (by rw [HN2.out]; omega)
            clear hT hb
            go_wp2
            go_quiet (fail)
            go_wp2
            go_roundw
            case rel => exact ⟨t + 1, by go_num, by omega, HT.out, by first | exact HB0.out | exact below_drewP _ HB0.out | exact below_drewP _ (below_drewP _ HB0.out)⟩
            case measure => simp [intOf]; omega
      · obtain rfl : t = d := by omega
        have HF : Hid (D = true) := by show D = true; rw [← HD.out]; exact decide_eq_true ⟨by first | rfl | trivial, hT⟩
        clear hT hb
        go_wp2
        go_ret
        exact ⟨by rw [HF.out]; first | done | rfl, by first | exact HBr.out | exact below_drewP _ HBr.out | exact below_drewP _ (below_drewP _ HBr.out)⟩
  · have b1 : (((kd : Nat) : Int) != ((kd' : Nat) : Int)) = true := by simp; omega
    have HF : Hid (D = false) := by show D = false; rw [← HD.out]; exact decide_eq_false fun h => hk h.1
    go_wp2
    go_ret
    exact ⟨by rw [HF.out]; first | done | rfl, ((Below.refl _ _).alloc (Nat.le_refl _) _).alloc (by simp) _⟩
end Go.Proofs.YtbmaiioecnmopaaGreatDoor

/-
  THE LAW Parts: which bucket an input is in, as a row of numbers. By the verifier of the loop 'triage'.
-/
namespace Go.Proofs.YtbmaiioecnmopaaGreatDoor
open Go.RowKit

theorem Tryz.infoReport : (Tryz.prog.info? 39).map (fun i => (i.zero, i.size, i.bytes)) = some (some (.agg #[.int .i64 0, .int .i64 0, .int .i64 0, .int .i64 0, .slice none 0 0, .slice none 0 0, .int .i64 0, .int .i64 0]), 8, 96) := by kernel_rfl
theorem Tryz.undReports : Tryz.prog.underlying 31 = some (.slice 39) := by kernel_rfl
theorem news8 (w : World) (t : TypeId) (x0 x1 x2 x3 x4 x5 x6 x7 : Value) (H : Nat) (hH : w.heap.size = H) : ∀ j u, [x0, x1, x2, x3, x4, x5, x6, x7][j]? = some u → (w.alloc (.cells #[x0, x1, x2, x3, x4, x5, x6, x7] t)).cell? ((⟨H, 0, none⟩ : Addr).add j) = some u := by
  subst hH
  exact World.news_of_block (rheap_new w (.cells #[x0, x1, x2, x3, x4, x5, x6, x7] t))
theorem ones8 (n0 n1 n2 n3 n6 : Nat) (a b : Option Addr) (x y z t : Nat) (n7 : Int) : ∀ u ∈ [Value.int .i64 (n0 : Nat), .int .i64 (n1 : Nat), .int .i64 (n2 : Nat), .int .i64 (n3 : Nat), .slice a x y, .slice b z t, .int .i64 (n6 : Nat), .int .i64 n7], u.oneCell' = true := by
  intro u hu
  repeat (rcases List.mem_cons.1 hu with rfl | hu; · rfl)
  cases hu

def inL (f : Nat → Nat) (n : Nat) : List Nat := (List.range n).map f
theorem inL_len (f : Nat → Nat) (n : Nat) : (inL f n).length = n := by simp [inL]
theorem inL_get (f : Nat → Nat) (n i : Nat) (h : i < n) : (inL f n)[i]?.getD 0 = f i := by
  unfold inL
  rw [List.getElem?_map, List.getElem?_range h]
  rfl
theorem inL_congr {f g : Nat → Nat} {n : Nat} (h : ∀ i, i < n → f i = g i) : inL f n = inL g n := List.map_congr_left fun i hi => h i (List.mem_range.1 hi)
def updN (f : Nat → Nat) (i x : Nat) (j : Nat) : Nat := if j = i then x else f j
theorem inL_set (f : Nat → Nat) (n i x : Nat) : (inL f n).set i x = inL (updN f i x) n := by
  apply List.ext_getElem?
  intro j
  unfold inL
  rw [List.getElem?_map]
  by_cases hj : j < n
  · rw [List.getElem?_range hj]
    by_cases hji : j = i
    · subst hji
      rw [List.getElem?_set_self (by simpa using hj)]
      simp [updN]
    · rw [List.getElem?_set_ne (Ne.symm hji), List.getElem?_map, List.getElem?_range hj]
      simp [updN, hji]
  · rw [List.getElem?_eq_none (by simpa using hj), List.getElem?_eq_none (by simpa using hj)]
    rfl
theorem ints_set (l : List Nat) (i x : Nat) : (ints l).set i (.int .i64 (x : Nat)) = ints (l.set i x) := by unfold ints; rw [List.map_set]

/-- a row of numbers that the call has made, and all else as it was. -/
structure P2 (gi n : Nat) (f : Nat → Nat) (w5 wr : World) : Prop where
  gr : w5.grownBy wr (some gi)
  own : wr.ownsRow gi 3 1 (.slice (some ⟨gi, 0, none⟩) n n) n (ints (inL f n))
section
variable {gi n : Nat} {f : Nat → Nat} {w5 wr w' : World}
theorem P2.below (h : P2 gi n f w5 wr) (hb : Below wr.heap.size wr w') : P2 gi n f w5 w' :=
  ⟨⟨hb.os.trans h.gr.os, hb.tape.trans h.gr.tape, hb.output.trans h.gr.output, Nat.le_trans h.gr.size hb.size, fun b hlt hne => (hb.block b (Nat.lt_of_lt_of_le hlt h.gr.size)).trans (h.gr.block b hlt hne)⟩, own_kept h.own hb⟩
theorem P2.drewN (h : P2 gi n f w5 wr) (q : Nat) : P2 gi n f w5 (wr.drewN q) := h.below ⟨rfl, rfl, rfl, Nat.le_refl _, fun _ _ => rfl⟩
theorem P2.cell (h : P2 gi n f w5 wr) {i : Nat} (hi : i < n) : wr.cell? ⟨gi, i, none⟩ = some (.int .i64 (f i : Nat)) := by
  rw [h.own.cellAt i (by omega), ints_get _ i (by rw [inL_len]; exact hi), inL_get f n i hi]
theorem P2.frz (h : P2 gi n f w5 wr) (i : Nat) : wr.frozen? ⟨gi, i, none⟩ = false := h.own.frozenAt i
theorem P2.far (h : P2 gi n f w5 wr) {g o : Nat} (hg : g < w5.heap.size) (hne : g ≠ gi) : wr.cell? ⟨g, o, none⟩ = w5.cell? ⟨g, o, none⟩ := h.gr.cell_far ⟨g, o, none⟩ hg (fun e => hne (Option.some.inj e))
theorem P2.set (h : P2 gi n f w5 wr) {i : Nat} (x : Nat) : P2 gi n (updN f i x) w5 (wr.setCell ⟨gi, i, none⟩ (.int .i64 (x : Nat))) := by
  obtain ⟨h1, h2⟩ := h.own.stored i (.int .i64 (x : Nat))
  rw [ints_set, inL_set] at h1
  exact ⟨⟨h2.os.trans h.gr.os, h2.tape.trans h.gr.tape, h2.output.trans h.gr.output, Nat.le_trans h.gr.size h2.size, fun b hlt hne => (h2.block b (Nat.lt_of_lt_of_le hlt h.gr.size) hne).trans (h.gr.block b hlt hne)⟩, h1⟩
theorem P2.congr (h : P2 gi n f w5 wr) {f' : Nat → Nat} (hf : ∀ i, i < n → f i = f' i) : P2 gi n f' w5 wr := ⟨h.gr, by rw [← inL_congr hf]; exact h.own⟩
theorem P2.rp (h : P2 gi n f w5 wr) {base : Nat} {ps : List Rp} {SV EV : Nat → Value} {v : Value} (hr : RpM base ps SV EV v w5) (hb : gi < base) : RpM base ps SV EV v wr := hr.kept h.gr (fun k hk => by cases hk; exact hb)
end
/-- a row whose blocks lie below. -/
structure BkLo (gi : Nat) (l : List Bk.Bk) (S M : Nat → Value) (v : Value) : Prop where
  v : v.ownBlock = none ∨ v.ownBlock ≠ some gi
  s : ∀ i, i < l.length → (S i).ownBlock = none ∨ (S i).ownBlock ≠ some gi
  m : ∀ i, i < l.length → (M i).ownBlock = none ∨ (M i).ownBlock ≠ some gi
theorem owns_lo {w : World} {base : Nat} {e : TypeId} {size : Nat} {v : Value} {n : Nat} {xs : List Value} (h : w.ownsRow base e size v n xs) {gi : Nat} (hg : w.heap.size ≤ gi) : v.ownBlock = none ∨ v.ownBlock ≠ some gi := by
  rcases hx : v.ownBlock with _ | x
  · exact Or.inl rfl
  · right
    intro e2
    have := (h.lt x hx).2
    have := Option.some.inj e2
    omega
theorem BkM.los {tB tS : TypeId} {base : Nat} {l : List Bk.Bk} {S M : Nat → Value} {v : Value} {w : World} (h : BkM tB tS base l S M v w) {gi : Nat} (hg : w.heap.size ≤ gi) : BkLo gi l S M v :=
  ⟨owns_lo h.row hg, fun i hi => owns_lo (h.sts i hi) hg, fun i hi => owns_lo (h.mem i hi) hg⟩
theorem P2.bk {gi n : Nat} {f : Nat → Nat} {w5 wr : World} (h : P2 gi n f w5 wr) {tB tS : TypeId} {base : Nat} {l : List Bk.Bk} {S M : Nat → Value} {v : Value} (hb : BkM tB tS base l S M v w5) (hl : BkLo gi l S M v) : BkM tB tS base l S M v wr := hb.kept h.gr hl.v hl.s hl.m

/-- which bucket, while the members of bucket b are gone through. -/
def pinF (K : Nat → Option Bk.Ky) (l : List Bk.Bk) (b t i : Nat) : Nat := if i ∈ (bkAt l b).mem.take t then b + 1 else Bk.inB K l b i
section
variable {K : Nat → Option Bk.Ky} {Z : Nat → Nat} {n : Nat} {l : List Bk.Bk}
theorem pin_zero (b i : Nat) : pinF K l b 0 i = Bk.inB K l b i := by unfold pinF; simp
theorem pin_step {b t : Nat} (ht : t < (bkAt l b).mem.length) (i : Nat) : updN (pinF K l b t) ((bkAt l b).mem[t]?.getD 0) (b + 1) i = pinF K l b (t + 1) i := by
  have e : i ∈ (bkAt l b).mem.take (t + 1) ↔ i ∈ (bkAt l b).mem.take t ∨ i = (bkAt l b).mem[t] := by
    rw [List.take_add_one, List.getElem?_eq_getElem ht, List.mem_append]
    simp
  rw [List.getElem?_eq_getElem ht]
  show updN (pinF K l b t) (bkAt l b).mem[t] (b + 1) i = _
  unfold updN pinF
  by_cases h : i = (bkAt l b).mem[t]
  · rw [if_pos h, if_pos (e.2 (Or.inr h))]
  · rw [if_neg h]
    by_cases h2 : i ∈ (bkAt l b).mem.take t
    · rw [if_pos h2, if_pos (e.2 (Or.inl h2))]
    · rw [if_neg h2, if_neg (fun h3 => (e.1 h3).elim h2 h)]
theorem pin_end (h : Bk.Part K Z n l) {b : Nat} (hb : b < l.length) (i : Nat) (hi : i < n) : pinF K l b (bkAt l b).mem.length i = Bk.inB K l (b + 1) i := by
  unfold pinF
  rw [List.take_of_length_le (Nat.le_refl _)]
  by_cases hm : i ∈ (bkAt l b).mem
  · rw [if_pos hm]; exact (h.mine hb hm).symm
  · rw [if_neg hm]; exact (h.other hb hi hm).symm
theorem pin_cur (h : Bk.Part K Z n l) {b t : Nat} (hb : b < l.length) (ht : t < (bkAt l b).mem.length) : pinF K l b t ((bkAt l b).mem[t]?.getD 0) = 0 := by
  have hp : (bkAt l b).mem.Pairwise (· < ·) := h.rise hb
  rw [List.getElem?_eq_getElem ht]
  show pinF K l b t (bkAt l b).mem[t] = 0
  unfold pinF
  rw [if_neg, h.ahead hb (List.getElem_mem ht)]
  intro hm
  obtain ⟨y, hy, he⟩ := List.getElem_of_mem hm
  rw [List.getElem_take] at he
  rw [List.length_take] at hy
  have := List.pairwise_iff_getElem.1 hp y t (by omega) ht (by omega)
  omega
theorem mem_at {b t : Nat} (ht : t < (bkAt l b).mem.length) : (bkAt l b).mem[t]?.getD 0 ∈ (bkAt l b).mem := by rw [List.getElem?_eq_getElem ht]; exact List.getElem_mem ht
end
end Go.Proofs.YtbmaiioecnmopaaGreatDoor
