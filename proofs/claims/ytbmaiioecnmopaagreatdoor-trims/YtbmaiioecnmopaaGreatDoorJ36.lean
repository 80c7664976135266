/-
  TrI, TrJ: THESE TEXTS, JOINED. By the verifier of the loop 'triage'.
-/
import Derived.Test.YtbmaiioecnmopaaGreatDoorJ35
import Derived.Test.YtbmaiioecnmopaaGreatDoorJ05
import Derived.Test.YtbmaiioecnmopaaGreatDoorJ34
/-
  THE PROGRAM's SIDE (package triage): Trim. By the verifier of the loop 'triage'.
-/
namespace Go.Proofs.YtbmaiioecnmopaaGreatDoor
open Go.RowKit

theorem Tryz.infoWay : (Tryz.prog.info? 95).map (fun i => (i.zero, i.size, i.bytes)) = some (some (.agg #[.int .i64 0, .slice none 0 0]), 2, 32) := by kernel_rfl
theorem Tryz.undWays : Tryz.prog.underlying 92 = some (.slice 95) := by kernel_rfl
theorem bx_of_owns2 {w : World} {base g n cap c size : Nat} {e : TypeId} {xs : List Value} {M : Nat → Value} (h : w.ownsRow base e size (.slice (some ⟨g, 0, none⟩) n cap) n xs) (hx : ∀ i, i < c → xs[i]? = some (M i)) : Bx g c M w := by
  have hc := h.cells (g := g) rfl
  obtain ⟨-, ⟨hv, -⟩ | ⟨g', c', cur, hv, -, hg, -⟩⟩ := h
  · cases hv
  · cases hv
    exact ⟨fun i hi => by have := hc i _ (hx i hi); rwa [addr_add] at this, fun _ => rfree_of hg, (Array.getElem?_eq_some_iff.1 hg).1⟩
theorem Ways.congr {B g n : Nat} {Z Z' : Nat → Nat} {F F' : Nat → List Nat} {V : Nat → Value} {w : World} (h : Ways B g n Z F V w) (hZ : ∀ i, i < n → Z i = Z' i) (hF : ∀ i, i < n → F i = F' i) : Ways B g n Z' F' V w := by
  refine ⟨bx_congr h.blk ?_, fun i hi => hF i hi ▸ h.rows i hi, h.ne⟩
  intro o ho
  unfold wayC
  rw [hZ _ (by omega)]
/-- a way is laid. -/
theorem Ways.lay {B g n : Nat} {Z : Nat → Nat} {F : Nat → List Nat} {V : Nat → Value} {w : World} (h : Ways B g n Z F V w) {i z : Nat} {u : Value} {l : List Nat} (hi : i < n) (hu : w.ownsRow B 3 1 u l.length (ints l)) (hg : u.ownBlock ≠ some g) :
    Ways B g n (fun k => if k = i then z else Z k) (fun k => if k = i then l else F k) (fun k => if k = i then u else V k) ((w.setCell ⟨g, i * 2, none⟩ (.int .i64 (z : Nat))).setCell ⟨g, i * 2 + 1, none⟩ u) := by
  have h1 : Ways B g n (fun k => if k = i then z else Z k) F V (w.setCell ⟨g, i * 2, none⟩ (.int .i64 (z : Nat))) := by
    refine ⟨?_, fun k hk => World.ownsRow.kept (h.rows k hk) gby_set (Or.inr (h.ne k hk)), h.ne⟩
    have hb := h.blk.set (i * 2) (.int .i64 (z : Nat)) (by omega)
    refine bx_congr hb ?_
    intro o ho
    unfold updV wayC
    by_cases ho2 : o = i * 2
    · subst ho2
      rw [if_pos rfl, if_pos (by omega), show i * 2 / 2 = i from by omega]; show _ = Value.int .i64 ((if i = i then z else Z i : Nat) : Int); rw [if_pos rfl]
    · rw [if_neg ho2]
      by_cases h2 : o % 2 = 0
      · rw [if_pos h2, if_pos h2]; show _ = Value.int .i64 ((if o / 2 = i then z else Z (o / 2) : Nat) : Int); rw [if_neg (by omega)]
      · rw [if_neg h2, if_neg h2]
  exact h1.put hi (World.ownsRow.kept hu gby_set (Or.inr hg)) hg

set_option maxRecDepth 100000 in
theorem field_edges (f0 f1 f2 f3 f4 f5 f6 f7 : Value) (w : World) : (Instr.field 39 (.agg #[f0, f1, f2, f3, f4, f5, f6, f7]) 3).run Tryz.prog w = .ok f5 w := by kernel_rfl

set_option maxHeartbeats 1600000 in
set_option maxRecDepth 100000 in
theorem codeTrim_any (s : ByteArray) (fuel : Int) (L : List ByteArray) (v : Value) (w : World) (hG : Glob w) (hI : Ins L v w) :
    Calls Tryz.prog 17 #[.string s, .int .i64 fuel, v] w fun e w' => TrimPost s fuel L w w' e := by
  obtain ⟨iW, hiW, hW0, hW1, hW2⟩ := info_parts Tryz.infoWay
  have HG : Hid (Glob w) := hG
  have HI : Hid (Ins L v w) := hI
  obtain ⟨a, cap, rfl, hcap, hmax, hcell, -⟩ := hI
  unfold maxLen at hmax
  obtain ⟨len, HLEN⟩ : ∃ len, Hid (L.length = len) := ⟨_, rfl⟩
  rw [HLEN.out] at hcap hcell HI
  rw [HLEN.out]
  clear hG
  go_enter Tryz.func17, Tryz.ntmps17
  go_wp2_with fail
  refine (setUp_any s fuel 0 L _ _ HG.out HI.out).mono ?_
  rintro e w1 ⟨hb1, (⟨hne, rfl⟩ | ⟨hok, bp, bs, bc, cs, rfl, hM, hcs, hcm⟩)⟩
  · have HB : Hid (Below w.heap.size w w1) := hb1
    have hb : ((askP s fuel 0 L).1 == 0) = false := by simpa using hne
    have HP : Hid (∀ o, TrimPost s fuel L w (w1.alloc o) (.returned (.tuple #[.slice none 0 0, .int .i64 (askP s fuel 0 L).1, .int .i64 (askP s fuel 0 L).2]))) := fun o => ⟨HB.out.alloc HB.out.size _, Or.inl ⟨hne, rfl⟩⟩
    clear hb1 hcell
    generalize (askP s fuel 0 L).1 = c at *
    generalize (askP s fuel 0 L).2 = p at *
    go_wp2
    go_ret3
    exact HP.out _
  · have HB : Hid (Below w.heap.size w w1) := hb1
    have HOK : Hid (AskOk s fuel 0 L) := hok
    obtain ⟨fu, rfl⟩ : ∃ fu : Nat, fuel = (fu : Int) := ⟨fuel.toNat, by have := HOK.out.fu; omega⟩
    have hf : fu ≤ 2000 := by have := HOK.out.fu; omega
    have hc := HOK.out.chk
    have hn : len ≤ 12 := by have := HOK.out.n; have := HLEN.out; omega
    have HSM : Hid (SetM s fu 0 w1.heap.size (w1.alloc (.cells #[.slice (some ⟨bs, 0, none⟩) (Im.bt s 0 + 1) cs, .slice (some ⟨bc, 0, none⟩) s.size s.size, .int .i64 (fu : Nat), .int .i64 ((0 : Nat) : Int)] 66))) := ⟨bp, bs, bc, cs, hM.below ((Below.refl _ _).alloc (Nat.le_refl _) _), hcs, hcm, rheap_new _ _⟩
    have hcell1 : 0 < len → ∃ g o, a = some ⟨g, o, none⟩ ∧ g < w.heap.size ∧ ∀ i, i < len → w.cell? ⟨g, o + i, none⟩ = some (.string (L[i]?.getD ByteArray.empty)) := hcell
    clear hb1 hM hok hcell
    go_wp2_with (at_make; go_loud (refine wpList_make_full _ rfl _ _ 92 rfl (w1.heap.size + 1) 95 iW (.agg #[.int .i64 0, .slice none 0 0]) 2 Tryz.undWays hiW hW0 hW1 _ _ _ _ len rfl rfl (by omega) (by omega) (by rw [hW2]; omega) (by unfold maxLen; omega) (by simp) ?_))
    intro w4 hpk hgr
    obtain ⟨W0, HW0⟩ : ∃ W0, Hid (w1.alloc (.cells #[.slice (some ⟨bs, 0, none⟩) (Im.bt s 0 + 1) cs, .slice (some ⟨bc, 0, none⟩) s.size s.size, .int .i64 (fu : Nat), .int .i64 0] 66) = W0) := ⟨_, rfl⟩
    have hz0 : W0.heap.size = w1.heap.size + 1 := by rw [← HW0.out]; simp
    have HS0 : Hid (SetM s fu 0 w1.heap.size W0) := by rw [← HW0.out]; exact HSM.out
    have HB0 : Hid (Below w.heap.size w W0) := by rw [← HW0.out]; exact HB.out.alloc HB.out.size _
    rw [HW0.out] at hgr
    have HB4 : Hid (Below W0.heap.size W0 w4) := ⟨hgr.os, hgr.tape, hgr.output, hgr.size, fun k hk => hgr.block k hk (by simp)⟩
    have HWY : Hid (Ways (w1.heap.size + 1) (w1.heap.size + 1) len (fun i => if i < 0 then lenI L i else 0) (fun i => if i < 0 then edg s fu L i else []) (fun _ => .slice none 0 0) w4) := by
      refine ⟨bx_of_owns2 hpk ?_, fun i _ => World.ownsRow_nil _ _ _ _, fun i _ => by intro e; cases e⟩
      intro i hi
      unfold wayC
      rcases Nat.mod_two_eq_zero_or_one i with h2 | h2
      · have hi2 : i < len * 2 := by omega
        simp [madeCells, h2, hi2]
      · have hi2 : i < len * 2 := by omega
        simp [madeCells, h2, hi2]
    clear hpk hgr HSM HW0
    go_wp2
    go_loopw [32] (fun iv wr => ∃ (j : Nat) (V : Nat → Value), iv = .int .i64 j ∧ j ≤ len ∧ Ways (w1.heap.size + 1) (w1.heap.size + 1) len (fun i => if i < j then lenI L i else 0) (fun i => if i < j then edg s fu L i else []) V wr ∧ Below W0.heap.size W0 wr) (fun iv _ => len - (intOf iv).toNat)
    case atStart => exact ⟨0, _, rfl, by omega, HWY.out, HB4.out⟩
    case round =>
      obtain ⟨j, V, rfl, hj, hWy, hb⟩ := hrel
      by_cases hlt : j < len
      · obtain ⟨g, o, rfl, hg, hcc⟩ := hcell1 (by omega)
        have hg0 : g < W0.heap.size := Nat.lt_of_lt_of_le hg HB0.out.size
        have hcj := (hb.cell (p := ⟨g, o + j, none⟩) hg0).trans ((HB0.out.cell (p := ⟨g, o + j, none⟩) hg).trans (hcc j hlt))
        have hsj : (L[j]?.getD ByteArray.empty).size ≤ 24 := by
          have hjl : j < L.length := by rw [HLEN.out]; exact hlt
          rw [List.getElem?_eq_getElem hjl]; exact HOK.out.sz _ (List.getElem_mem hjl)
        have HED : Hid (edg s fu L j = (rep s fu (L[j]?.getD ByteArray.empty)).eds) := rfl
        have HLI : Hid (lenI L j = (L[j]?.getD ByteArray.empty).size) := rfl
        generalize L[j]?.getD ByteArray.empty = x at *
        have HWr : Hid (Ways (w1.heap.size + 1) (w1.heap.size + 1) len (fun i => if i < j then lenI L i else 0) (fun i => if i < j then edg s fu L i else []) V wr) := hWy
        have HBr : Hid (Below W0.heap.size W0 wr) := hb
        have hgl := hWy.blk.lt
        clear hWy hb hcc hcell1
        go_wp2_with fail
        refine (srun_any s x fu 0 w1.heap.size _ hc hsj hf (HS0.out.below HBr.out)).mono ?_
        rintro e w2 ⟨v4, v5, rfl, h4, h5, hb2⟩
        have HW2 : Hid (Ways (w1.heap.size + 1) (w1.heap.size + 1) len (fun i => if i < j then lenI L i else 0) (fun i => if i < j then edg s fu L i else []) V w2) := HWr.out.below hb2
        have HB2 : Hid (Below W0.heap.size W0 w2) := HBr.out.trans (hb2.mono HBr.out.size)
        rw [← HED.out] at h5
        have hub : ∀ q, v5.ownBlock = some q → wr.heap.size ≤ q := fun q hq => (h5.lt q hq).1
        have h5' := owns_base (base' := w1.heap.size + 1) h5 (by omega)
        obtain ⟨a5, cap5, hv5, -, -, -⟩ := owns_shape h5
        subst hv5
        obtain ⟨a4, cap4, hv4, -, -, -⟩ := owns_shape h4
        subst hv4
        have HW3 : Hid (Ways (w1.heap.size + 1) (w1.heap.size + 1) len (fun i => if i < j + 1 then lenI L i else 0) (fun i => if i < j + 1 then edg s fu L i else []) (fun k => if k = j then .slice a5 (edg s fu L j).length cap5 else V k) ((w2.setCell ⟨w1.heap.size + 1, j * 2, none⟩ (.int .i64 (x.size : Nat))).setCell ⟨w1.heap.size + 1, j * 2 + 1, none⟩ (.slice a5 (edg s fu L j).length cap5))) := by
          have := HW2.out.lay (z := x.size) hlt h5' (by intro e; have := hub _ e; omega)
          refine this.congr ?_ ?_
          · intro i _
            by_cases h1 : i = j
            · subst h1; rw [if_pos rfl, if_pos (by omega), HLI.out]
            · rw [if_neg h1]
              by_cases h2 : i < j
              · rw [if_pos h2, if_pos (by omega)]
              · rw [if_neg h2, if_neg (by omega)]
          · intro i _
            by_cases h1 : i = j
            · subst h1; rw [if_pos rfl, if_pos (by omega)]
            · rw [if_neg h1]
              by_cases h2 : i < j
              · rw [if_pos h2, if_pos (by omega)]
              · rw [if_neg h2, if_neg (by omega)]
        have HB3 : Hid (Below W0.heap.size W0 ((w2.setCell ⟨w1.heap.size + 1, j * 2, none⟩ (.int .i64 (x.size : Nat))).setCell ⟨w1.heap.size + 1, j * 2 + 1, none⟩ (.slice a5 (edg s fu L j).length cap5))) := (HB2.out.setCell (p := ⟨w1.heap.size + 1, j * 2, none⟩) (by show W0.heap.size ≤ w1.heap.size + 1; omega) _).setCell (p := ⟨w1.heap.size + 1, j * 2 + 1, none⟩) (by show W0.heap.size ≤ w1.heap.size + 1; omega) _
        have d0 := HW2.out.c0 hlt
        have d1 := HW2.out.c1 hlt
        have df := HW2.out.blk.frz
        generalize rep s fu x = p at *
        clear h4 h5 h5' hb2 hub hcj
        have hfld := fun w => field_edges (.int .i64 (p.fa : Nat)) (.int .i64 (p.pa : Nat)) (.int .i64 (p.kd : Nat)) (.int .i64 (p.en : Nat)) (.slice a4 p.sts.length cap4) (.slice a5 (edg s fu L j).length cap5) (.int .i64 (p.k : Nat)) (.int .i64 p.top) w
        go_wp2
        go_roundw
        case rel => exact ⟨j + 1, _, by go_num, by omega, HW3.out, HB3.out⟩
        case measure => simp [intOf]; omega
      · obtain rfl : j = len := by omega
        have HWr : Hid (Ways (w1.heap.size + 1) (w1.heap.size + 1) j (lenI L) (edg s fu L) V wr) := hWy.congr (fun i hi => if_pos hi) (fun i hi => if_pos hi)
        have HBr : Hid (Below W0.heap.size W0 wr) := hb
        clear hWy hb
        go_wp2_with fail
        refine (pick_any (w1.heap.size + 1) (w1.heap.size + 1) j (edg s fu L) (lenI L) V _ hn (edg_len s fu L) (Nat.le_refl _) HWr.out).mono ?_
        rintro e w5 ⟨v5, rfl, h5, hb5⟩
        have HP : Hid (TrimPost s fu L w w5 (.returned (.tuple #[v5, .int .i64 0, .int .i64 0]))) := by
          refine ⟨?_, Or.inr ⟨HOK.out, v5, rfl, ?_⟩⟩
          · exact HB0.out.trans ((HBr.out.trans (hz0 ▸ hb5)).mono HB0.out.size)
          · rw [HLEN.out]
            exact owns_base h5 (Nat.le_trans HB.out.size (Nat.le_succ _))
        clear h5 hb5
        go_wp2
        go_ret3
        exact HP.out
end Go.Proofs.YtbmaiioecnmopaaGreatDoor

/-
  THE LAW Trims: its walk. By the verifier of the loop 'triage'.
-/
namespace Go.Proofs.YtbmaiioecnmopaaGreatDoor
open Go.RowKit

set_option maxHeartbeats 1600000 in
set_option maxRecDepth 100000 in
theorem trims_walk (s : ByteArray) (fuel : Int) (L : List ByteArray) (v : Value) (w : World) (hG : Glob w) (hI : Ins L v w) :
    Calls Tryz.prog 5 #[.string s, .int .i64 fuel, v] w fun e w' => e = .returned (.bool true) ∧ Below w.heap.size w w' := by
  have HG : Hid (Glob w) := hG
  have HI : Hid (Ins L v w) := hI
  obtain ⟨a, cap, hv, -⟩ := hI
  subst hv
  obtain ⟨len, HLEN⟩ : ∃ len, Hid (L.length = len) := ⟨_, rfl⟩
  rw [HLEN.out] at HI
  rw [HLEN.out]
  clear hG
  go_enter Tryz.func5, Tryz.ntmps5
  go_wp2_with fail
  refine (codeTrim_any s fuel L _ _ HG.out HI.out).mono ?_
  rintro e w1 ⟨hb1, hp1⟩
  have HB1 : Hid (Below w.heap.size w w1) := hb1
  clear hb1
  rcases hp1 with ⟨hne, rfl⟩ | ⟨hok, v1, rfl, h1⟩
  · go_wp2_with fail
    refine (refTrim_any s fuel L _ _ (HI.out.below HB1.out)).mono ?_
    rintro e w2 ⟨hb2, (⟨-, rfl⟩ | ⟨hok2, -⟩)⟩
    · have HB2 : Hid (Below w.heap.size w w2) := HB1.out.trans (hb2.mono HB1.out.size)
      clear hb2 hne
      generalize (askP s fuel 0 L).1 = c at *
      generalize (askP s fuel 0 L).2 = p at *
      go_wp2_with (first
        | (go_at_call 9; refine (num_any c _).mono ?_; rintro e w' ⟨rfl, rfl⟩)
        | (go_at_call 19; refine (sameInts_any 0 0 _ _ [] _ (World.ownsRow_nil _ _ _ _) (World.ownsRow_nil _ _ _ _)).mono ?_; rintro e w3 ⟨rfl, hb3⟩; have HB3 : Hid (Below w.heap.size w w3) := HB2.out.trans (hb3.mono HB2.out.size); clear hb3))
      go_ret
      exact ⟨rfl, HB3.out⟩
    · exact absurd (congrArg Prod.fst hok2.ask) hne
  · have HOK : Hid (AskOk s fuel 0 L) := hok
    obtain ⟨a1, cap1, hv1, -, -, -⟩ := owns_shape h1
    subst hv1
    have H1 : Hid (w1.ownsRow w.heap.size 3 1 (.slice a1 (Tr.ans (edg s fuel.toNat L) (lenI L) L.length).length cap1) (Tr.ans (edg s fuel.toNat L) (lenI L) L.length).length (ints (Tr.ans (edg s fuel.toNat L) (lenI L) L.length))) := h1
    clear hok h1
    go_wp2_with fail
    refine (refTrim_any s fuel L _ _ (HI.out.below HB1.out)).mono ?_
    rintro e w2 ⟨hb2, (⟨hne, -⟩ | ⟨-, v2, rfl, h2⟩)⟩
    · exact absurd (congrArg Prod.fst HOK.out.ask) hne
    · have HB2 : Hid (Below w.heap.size w w2) := HB1.out.trans (hb2.mono HB1.out.size)
      have h1 := owns_kept H1.out hb2
      obtain ⟨a2, cap2, hv2, -, -, -⟩ := owns_shape h2
      subst hv2
      generalize Tr.ans (edg s fuel.toNat L) (lenI L) L.length = l at *
      have H2 : Hid (w2.ownsRow w1.heap.size 3 1 (.slice a2 l.length cap2) l.length (ints l)) := h2
      have H3 : Hid (w2.ownsRow w.heap.size 3 1 (.slice a1 l.length cap1) l.length (ints l)) := h1
      clear hb2 h1 h2 H1
      go_wp2_with (first
        | (go_at_call 9; refine (num_any 0 _).mono ?_; rintro e w' ⟨rfl, rfl⟩)
        | (go_at_call 19; refine (sameInts_any _ _ _ _ l _ H3.out H2.out).mono ?_; rintro e w3 ⟨rfl, hb3⟩; have HB3 : Hid (Below w.heap.size w w3) := HB2.out.trans (hb3.mono HB2.out.size); clear hb3))
      go_ret
      exact ⟨rfl, HB3.out⟩
end Go.Proofs.YtbmaiioecnmopaaGreatDoor
