/-
  KeyD, KeyE: THESE TEXTS, JOINED. By the verifier of the loop 'triage'.
-/
import Derived.Test.YtbmaiioecnmopaaGreatDoorJ30
import Derived.Test.YtbmaiioecnmopaaGreatDoorJ33
import Derived.Test.YtbmaiioecnmopaaGreatDoorJ31
import Derived.Deep.RegionHeld3
/-
  THE PROGRAM's SIDE (package triage): setUp. By the verifier of the loop 'triage'.
-/
namespace Go.Proofs.YtbmaiioecnmopaaGreatDoor
open Go.RowKit

/-- what setUp answers. -/
def SetPost (s : ByteArray) (fuel depth : Int) (L : List ByteArray) (w w' : World) (e : Ending) : Prop :=
  Below w.heap.size w w' ∧
  (((askP s fuel depth L).1 ≠ 0 ∧ e = .returned (.tuple #[.agg #[.slice none 0 0, .slice none 0 0, .int .i64 0, .int .i64 0], .int .i64 (askP s fuel depth L).1, .int .i64 (askP s fuel depth L).2])) ∨
   (AskOk s fuel depth L ∧ ∃ bp bs bc cs, e = .returned (.tuple #[.agg #[.slice (some ⟨bs, 0, none⟩) (Im.bt s 0 + 1) cs, .slice (some ⟨bc, 0, none⟩) s.size s.size, .int .i64 fuel, .int .i64 depth], .int .i64 0, .int .i64 0]) ∧ Mem s (Im.bt s 0) bp bs bc cs (allD s (Im.bt s 0)) w' ∧ Im.bt s 0 + 1 ≤ cs ∧ cs ≤ maxLen))
/-- four cells are set at a block. -/
def putS (w : World) (b : Nat) (v0 v1 v2 v3 : Value) : World := (((w.setCell ⟨b, 0, none⟩ v0).setCell ⟨b, 1, none⟩ v1).setCell ⟨b, 2, none⟩ v2).setCell ⟨b, 3, none⟩ v3
theorem putS_below {a w : World} {b B : Nat} {v0 v1 v2 v3 : Value} (h : Below B a w) (hb : B ≤ b) : Below B a (putS w b v0 v1 v2 v3) :=
  (((h.setCell (p := ⟨b, 0, none⟩) hb _).setCell (p := ⟨b, 1, none⟩) hb _).setCell (p := ⟨b, 2, none⟩) hb _).setCell (p := ⟨b, 3, none⟩) hb _
theorem putS_mem {s : ByteArray} {n bp bs bc cs r : Nat} {D : List Nat} {w : World} {v0 v1 v2 v3 : Value} (hM : Mem s n bp bs bc cs D w) (h1 : r ≠ bp) (h2 : r ≠ bs) (h3 : r ≠ bc) (h4 : r ≠ 2) : Mem s n bp bs bc cs D (putS w r v0 v1 v2 v3) :=
  (((hM.set h1 h2 h3 h4).set h1 h2 h3 h4).set h1 h2 h3 h4).set h1 h2 h3 h4
theorem z4_of {w : World} {b : Nat} {v0 v1 v2 v3 : Value} {t : TypeId} (h : w.heap[b]? = some (.cells #[v0, v1, v2, v3] t (0, 0))) : (w.cell? ⟨b, 0, none⟩ = some v0 ∧ w.cell? ⟨b, 1, none⟩ = some v1 ∧ w.cell? ⟨b, 2, none⟩ = some v2 ∧ w.cell? ⟨b, 3, none⟩ = some v3) ∧ (∀ o, w.frozen? ⟨b, o, none⟩ = false) :=
  ⟨⟨rcell_of h rfl, rcell_of h rfl, rcell_of h rfl, rcell_of h rfl⟩, fun _ => rfree_of h⟩
theorem set_bad {s : ByteArray} {fuel depth c p : Int} {L : List ByteArray} {w w1 : World} {v0 v1 v2 v3 : Value} (h : askP s fuel depth L = (c, p)) (hc : c ≠ 0) (hb : Below w.heap.size w w1) :
    SetPost s fuel depth L w (putS w1 w.heap.size v0 v1 v2 v3) (.returned (.tuple #[.agg #[.slice none 0 0, .slice none 0 0, .int .i64 0, .int .i64 0], .int .i64 c, .int .i64 p])) :=
  ⟨putS_below hb (Nat.le_refl _), Or.inl ⟨by rw [h]; exact hc, by rw [h]⟩⟩
theorem set_badA {s : ByteArray} {fuel depth c p : Int} {L : List ByteArray} {w w1 : World} {v0 v1 v2 v3 : Value} {o : Obj} (h : askP s fuel depth L = (c, p)) (hc : c ≠ 0) (hb : Below w.heap.size w w1) :
    SetPost s fuel depth L w ((putS w1 w.heap.size v0 v1 v2 v3).alloc o) (.returned (.tuple #[.agg #[.slice none 0 0, .slice none 0 0, .int .i64 0, .int .i64 0], .int .i64 c, .int .i64 p])) :=
  ⟨(putS_below hb (Nat.le_refl _)).alloc (putS_below hb (Nat.le_refl _)).size _, Or.inl ⟨by rw [h]; exact hc, by rw [h]⟩⟩

set_option maxHeartbeats 3200000 in
set_option maxRecDepth 100000 in
theorem setUp_any (s : ByteArray) (fuel depth : Int) (L : List ByteArray) (v : Value) (w : World) (hG : Glob w) (hI : Ins L v w) :
    Calls Tryz.prog 21 #[.string s, .int .i64 fuel, .int .i64 depth, v] w fun e w' => SetPost s fuel depth L w w' e := by
  have HG : Hid (Glob w) := hG
  have HI : Hid (Ins L v w) := hI
  have hT : 2 < w.heap.size := hG.tab.lt
  clear hG
  obtain ⟨a, cap, rfl, hcap, hmax, hcell, -⟩ := hI
  unfold maxLen at hmax
  obtain ⟨len, HLEN⟩ : ∃ len, Hid (L.length = len) := ⟨_, rfl⟩
  rw [HLEN.out] at hcap hcell ⊢
  go_enter Tryz.func21, Tryz.ntmps21
  go_wp2_with fail
  refine (read_all s _ (HG.out.tab.below ((Below.refl _ _).alloc (Nat.le_refl _) _))).mono ?_
  rintro e w1 (⟨hc, er, rfl, hw, hb⟩ | ⟨hc, bp, bs, bc, cs, rfl, h1, h2, hM, hb, hcs, hcm⟩)
  · have hrb : w1.heap[w.heap.size]? = some (.cells #[.slice none 0 0, .slice none 0 0, .int .i64 0, .int .i64 0] 66 (0, 0)) := by
      rw [hb.block w.heap.size (by simp)]; exact heap_new _ _
    have hsz1 : w.heap.size < w1.heap.size := by have := hb.size; simp at this; omega
    have HB : Hid (Below w.heap.size w w1) := below_new hb
    obtain ⟨t, b, rfl⟩ := wrapped_shape hw
    have HW : Hid _ := hw
    clear hw hb hcell
    go_wp2_with fail
    refine (verdict_any _ _ (Im.chk s).1 (Im.chk s).2 _ ((HG.out.below (HB.out)).below ((Below.refl _ _).alloc (Nat.le_refl _) _)) (Wrapped.below HW.out ((Below.refl _ _).alloc (Nat.le_refl _) _))).mono ?_
    rintro e w2 ⟨rfl, hb2⟩
    have hb3 : Below w.heap.size w w2 := (HB.out.alloc (Nat.le_of_lt hsz1) _).trans (hb2.mono (by simp; omega))
    have hrb2 := (hb2.block w.heap.size (by simp; omega)).trans ((Below.heap_alloc _ _ _ hsz1).trans hrb)
    obtain ⟨⟨d0, d1, d2, d3⟩, hf⟩ := z4_of hrb2
    have HB3 : Hid (Below w.heap.size w w2) := hb3
    have HQ : Hid (askP s fuel depth L = ((Im.chk s).1, (Im.chk s).2)) := askP_chk hc
    clear hb2 hb3 hrb hrb2
    generalize Im.chk s = ck at *
    go_wp2
    exact bodyPost_ret (v := .tuple #[.agg #[.slice none 0 0, .slice none 0 0, .int .i64 0, .int .i64 0], .int .i64 ck.1, .int .i64 ck.2]) (by simp [results, Tryz.results21, go_sem, d0, d1, d2, d3]) rfl (set_bad HQ.out hc HB3.out)
  · have hrb : w1.heap[w.heap.size]? = some (.cells #[.slice none 0 0, .slice none 0 0, .int .i64 0, .int .i64 0] 66 (0, 0)) := by
      rw [hb.block w.heap.size (by simp)]; exact heap_new _ _
    have hsz1 : w.heap.size < w1.heap.size := by have := hb.size; simp at this; omega
    have HB : Hid (Below w.heap.size w w1) := below_new hb
    obtain ⟨⟨d0, d1, d2, d3⟩, hf⟩ := z4_of hrb
    have hbp : w.heap.size ≠ bp := by
      intro e
      have := hM.starts
      rw [← e, d0] at this
      cases this
    have h0 : (Im.chk s).1 = 0 := by rw [hc]
    simp only [World.size_alloc] at h1 h2
    have HM : Hid (∀ v0 v1 v2 v3 o, Mem s (Im.bt s 0) bp bs bc cs (allD s (Im.bt s 0)) ((putS w1 w.heap.size v0 v1 v2 v3).alloc o)) := fun v0 v1 v2 v3 o => (putS_mem hM hbp (by omega) (by omega) (by omega)).below ((Below.refl _ _).alloc (Nat.le_refl _) _)
    have hcell1 : 0 < len → ∃ g o, a = some ⟨g, o, none⟩ ∧ g < w1.heap.size ∧ ∀ i, i < len → w1.cell? ⟨g, o + i, none⟩ = some (.string (L[i]?.getD ByteArray.empty)) := by
      intro hp
      obtain ⟨g, o, e, hg, hcc⟩ := hcell hp
      exact ⟨g, o, e, by omega, fun i hi => (HB.out.cell (p := ⟨g, o + i, none⟩) hg).trans (hcc i hi)⟩
    clear hM hb h1 h2 hcell hrb
    by_cases hn : badN fuel depth len
    · have HQ : Hid (askP s fuel depth L = (6, 0)) := askP_arg h0 (by rw [HLEN.out]; exact hn)
      clear hcell1 h0 hc HM
      unfold badN at hn
      have hn2 : fuel < 0 ∨ ¬ fuel < 0 ∧ 2000 < fuel ∨ ¬ fuel < 0 ∧ ¬ 2000 < fuel ∧ depth < 0 ∨ ¬ fuel < 0 ∧ ¬ 2000 < fuel ∧ ¬ depth < 0 ∧ 6 < depth ∨ ¬ fuel < 0 ∧ ¬ 2000 < fuel ∧ ¬ depth < 0 ∧ ¬ 6 < depth ∧ 12 < len := by omega
      clear hn
      rcases hn2 with k1 | ⟨k1, k2⟩ | ⟨k1, k2, k3⟩ | ⟨k1, k2, k3, k4⟩ | ⟨k1, k2, k3, k4, k5⟩
      all_goals
        go_wp2
        exact bodyPost_ret (v := .tuple #[.agg #[.slice none 0 0, .slice none 0 0, .int .i64 0, .int .i64 0], .int .i64 6, .int .i64 0]) (by simp [results, Tryz.results21, go_sem, d0, d1, d2, d3, hsz1]) rfl (set_badA HQ.out (by decide) HB.out)
    · have HLN : Hid (∀ i : Nat, lng L 0 = some i → askP s fuel depth L = (1, (i : Int))) := fun i hi => askP_lng h0 (by rw [HLEN.out]; exact hn) hi
      have HOK : Hid (lng L 0 = none → AskOk s fuel depth L) := fun hi => askOk_of h0 (by rw [HLEN.out]; exact hn) hi
      clear h0 hc
      unfold badN at hn
      have k1 : ¬ fuel < 0 := by omega
      have k2 : ¬ 2000 < fuel := by omega
      have k3 : ¬ depth < 0 := by omega
      have k4 : ¬ 6 < depth := by omega
      have k5 : ¬ 12 < len := by omega
      clear hn
      have hn6 : w.heap.size ≠ w1.heap.size := Nat.ne_of_lt hsz1
      obtain ⟨W, HWW⟩ : ∃ W, Hid (w1.alloc (.cells #[.slice (some ⟨bs, 0, none⟩) (Im.bt s 0 + 1) cs, .slice (some ⟨bc, 0, none⟩) s.size s.size] 64) = W) := ⟨_, rfl⟩
      go_wp2
      rw [HWW.out]
      go_loopw [54] (fun i wr => ∃ j : Nat, i = .int .i64 j ∧ j ≤ len ∧ lng L 0 = lng (L.drop j) j ∧ wr = W) (fun i _ => len - (intOf i).toNat)
      case atStart => exact ⟨0, rfl, by omega, by simp, rfl⟩
      case round =>
        obtain ⟨j, rfl, hj, hL, rfl⟩ := hrel
        rw [← HWW.out]
        by_cases hlt : j < len
        · obtain ⟨g, o, rfl, hg, hcc⟩ := hcell1 (by omega)
          have hcj := hcc j hlt
          have hsj := HI.out.getsz j
          have hgn : g ≠ w1.heap.size := Nat.ne_of_lt hg
          have HS := lng_step L j (by rw [HLEN.out]; exact hlt)
          rw [HS] at hL
          generalize L[j]?.getD ByteArray.empty = x at *
          unfold maxLen at hsj
          by_cases hx : 24 < x.size
          · rw [if_pos hx] at hL
            have HQ : Hid (askP s fuel depth L = (1, (j : Int))) := HLN.out j hL
            clear hL HS hcc hcell1
            go_wp2
            exact bodyPost_ret (v := .tuple #[.agg #[.slice none 0 0, .slice none 0 0, .int .i64 0, .int .i64 0], .int .i64 1, .int .i64 (j : Int)]) (by simp [results, Tryz.results21, go_sem, d0, d1, d2, d3, hsz1]) rfl (set_badA HQ.out (by decide) HB.out)
          · rw [if_neg hx] at hL
            have HE : Hid (lng L 0 = lng (L.drop (j + 1)) (j + 1)) := hL
            clear hL HS hcc hcell1
            go_wp2
            go_roundw
            case rel => exact ⟨j + 1, by go_num, by omega, HE.out, by first | exact trivial | exact HWW.out⟩
            case measure => simp [intOf]; omega
        · obtain rfl : j = len := by omega
          have HO : Hid (AskOk s fuel depth L) := HOK.out (hL.trans (lng_end L _ (by rw [HLEN.out]; exact Nat.le_refl _)))
          clear hL hcell1
          go_wp2
          refine bodyPost_ret (v := .tuple #[.agg #[.slice (some ⟨bs, 0, none⟩) (Im.bt s 0 + 1) cs, .slice (some ⟨bc, 0, none⟩) s.size s.size, .int .i64 fuel, .int .i64 depth], .int .i64 0, .int .i64 0]) (by simp [results, Tryz.results21, go_sem, d0, d1, d2, d3, hsz1]) rfl ?_
          exact ⟨(putS_below HB.out (Nat.le_refl _)).alloc (putS_below HB.out (Nat.le_refl _)).size _, Or.inr ⟨HO.out, bp, bs, bc, cs, rfl, HM.out _ _ _ _ _, hcs, hcm⟩⟩
end Go.Proofs.YtbmaiioecnmopaaGreatDoor

/-
  THE PROGRAM's SIDE (package triage): run, crash, crashesSo. By the verifier of the loop 'triage'.
-/
namespace Go.Proofs.YtbmaiioecnmopaaGreatDoor
open Go.RowKit

/-- a setting, as it lies in memory. -/
def SetM (s : ByteArray) (fuel d B : Nat) (w : World) : Prop :=
  ∃ bp bs bc cs, Mem s (Im.bt s 0) bp bs bc cs (allD s (Im.bt s 0)) w ∧ Im.bt s 0 + 1 ≤ cs ∧ cs ≤ maxLen ∧ w.heap[B]? = some (.cells #[.slice (some ⟨bs, 0, none⟩) (Im.bt s 0 + 1) cs, .slice (some ⟨bc, 0, none⟩) s.size s.size, .int .i64 (fuel : Nat), .int .i64 (d : Nat)] 66 (0, 0))
theorem heap_lt {w : World} {b : Nat} {o : Obj} (h : w.heap[b]? = some o) : b < w.heap.size := (Array.getElem?_eq_some_iff.1 h).1
theorem SetM.below {s : ByteArray} {fuel d B : Nat} {w w' : World} (h : SetM s fuel d B w) (hb : Below w.heap.size w w') : SetM s fuel d B w' := by
  obtain ⟨bp, bs, bc, cs, hM, h1, h2, h3⟩ := h
  exact ⟨bp, bs, bc, cs, hM.below hb, h1, h2, (hb.block B (heap_lt h3)).trans h3⟩
theorem SetM.drewN {s : ByteArray} {fuel d B : Nat} {w : World} (h : SetM s fuel d B w) (n : Nat) : SetM s fuel d B (w.drewN n) := h.below ⟨rfl, rfl, rfl, Nat.le_refl _, fun _ _ => rfl⟩

/-- what play answers, with the report under its name. -/
def CRepP (s : ByteArray) (fuel : Nat) (inp : ByteArray) (w w' : World) (e : Ending) : Prop :=
  ∃ v4 v5, e = .returned (.agg #[.int .i64 ((rep s fuel inp).fa : Nat), .int .i64 ((rep s fuel inp).pa : Nat), .int .i64 ((rep s fuel inp).kd : Nat), .int .i64 ((rep s fuel inp).en : Nat), v4, v5, .int .i64 ((rep s fuel inp).k : Nat), .int .i64 (rep s fuel inp).top]) ∧
    w'.ownsRow w.heap.size 34 2 v4 (rep s fuel inp).sts.length (prs (rep s fuel inp).sts) ∧ w'.ownsRow w.heap.size 3 1 v5 (rep s fuel inp).eds.length (ints (rep s fuel inp).eds) ∧ Below w.heap.size w w'

theorem put8_cell {w : World} {b B o : Nat} {v0 v1 v2 v3 v4 v5 v6 v7 : Value} (h : B ≠ b) : (put8 w b v0 v1 v2 v3 v4 v5 v6 v7).cell? ⟨B, o, none⟩ = w.cell? ⟨B, o, none⟩ := by
  have e : ∀ (W : World) (i : Nat) (v : Value), (W.setCell ⟨b, i, none⟩ v).cell? ⟨B, o, none⟩ = W.cell? ⟨B, o, none⟩ := fun W i v => World.cell?_setCell_other _ _ _ _ (fun e => h (congrArg Addr.block e).symm)
  unfold put8
  rw [e, e, e, e, e, e, e, e]
theorem undrew {w w2 : World} (h : Below w.drew.heap.size w.drew w2) : Below w.heap.size w w2 := ⟨h.os, h.tape, h.output, h.size, h.block⟩

set_option maxHeartbeats 1600000 in
theorem srun_any (s inp : ByteArray) (fuel d B : Nat) (w : World) (hc : Im.chk s = (0, 0)) (hi : inp.size ≤ 24) (hf : fuel ≤ 2000) (hS : SetM s fuel d B w) :
    Calls Tryz.prog 34 #[.pointer (some ⟨B, 0, none⟩), .string inp] w fun e w' => CRepP s fuel inp w w' e := by
  have HS : Hid (SetM s fuel d B w) := hS
  obtain ⟨bp, bs, bc, cs, hM, h1, h2, h3⟩ := hS
  obtain ⟨⟨x0, x1, x2, x3⟩, -⟩ := z4_of h3
  have HMA : Hid (∀ o, Mem s (Im.bt s 0) bp bs bc cs (allD s (Im.bt s 0)) (w.alloc o).drew) := fun o => hM.below (below_drew ((Below.refl _ _).alloc (Nat.le_refl _) _))
  obtain ⟨r, HR⟩ : ∃ r, Hid (Im.runP s inp fuel (Im.st0 s) 0 = r) := ⟨_, rfl⟩
  have HP : rep s fuel inp = ofR r := by unfold rep; rw [HR.out]
  have HPL : Hid (∀ W, Mem s (Im.bt s 0) bp bs bc cs (allD s (Im.bt s 0)) W → Calls Tryz.prog 26 #[.agg #[.slice (some ⟨bs, 0, none⟩) (Im.bt s 0 + 1) cs, .slice (some ⟨bc, 0, none⟩) s.size s.size], .string inp, .int .i64 fuel] W fun e w' => CRep r W w' e) := by
    intro W hW
    have := cplay_any s inp (Im.bt s 0) bp bs bc cs fuel W (Im.okay_of s hc) hi hf hW h1 h2
    rwa [HR.out] at this
  unfold CRepP
  rw [HP]
  clear HR HP
  have hB := heap_lt h3
  have hBn : B ≠ w.heap.size := Nat.ne_of_lt hB
  have H3 : Hid (w.heap[B]? = some (.cells #[.slice (some ⟨bs, 0, none⟩) (Im.bt s 0 + 1) cs, .slice (some ⟨bc, 0, none⟩) s.size s.size, .int .i64 (fuel : Nat), .int .i64 (d : Nat)] 66 (0, 0))) := h3
  clear hM h3 x3
  go_enter Tryz.func34, Tryz.ntmps34
  go_wp2
  go_region_held (fun W => W.cell? ⟨B, 0, none⟩ = some (.slice (some ⟨bs, 0, none⟩) (Im.bt s 0 + 1) cs) ∧ W.cell? ⟨B, 1, none⟩ = some (.slice (some ⟨bc, 0, none⟩) s.size s.size) ∧ W.cell? ⟨B, 2, none⟩ = some (.int .i64 (fuel : Nat))) (first | go_keep | exact ⟨(put8_cell hBn).trans y0, (put8_cell hBn).trans y1, (put8_cell hBn).trans y2⟩)
    (first | (go_at_call 26; go_loud (refine (HPL.out _ (HMA.out _)).mono ?_; rintro e w2 ⟨v4, v5, rfl, h4, h5, hb2⟩; have hb3 := undrew hb2; obtain ⟨a1, cap1, hv1, -, -, -⟩ := owns_shape h4; obtain ⟨a2, cap2, hv2, -, -, -⟩ := owns_shape h5; subst hv1 hv2; obtain ⟨⟨y0, y1, y2, y3⟩, -⟩ := z4_of ((hb3.block B (by simp; omega)).trans ((Below.heap_alloc _ _ _ hB).trans H3.out)); obtain ⟨⟨d0, d1, d2, d3, d4, d5, d6, d7⟩, ⟨f0, f1, f2, f3, f4, f5, f6, f7⟩⟩ := z8_of ((hb3.block w.heap.size (by simp)).trans (heap_new _ _)))))
  all_goals
    have h4' := owns_base (base' := w.heap.size + 1) h4 (by simp)
    have h5' := owns_base (base' := w.heap.size + 1) h5 (by simp)
    have HB2 : Hid (Below w.heap.size w w2) := below_new hb3
    have H4 : Hid (w2.ownsRow (w.heap.size + 1) 34 2 (.slice a1 (rsts r).length cap1) (rsts r).length (prs (rsts r))) := h4'
    have H5 : Hid (w2.ownsRow (w.heap.size + 1) 3 1 (.slice a2 (Im.el r.2.2.1.edg).length cap2) (Im.el r.2.2.1.edg).length (ints (Im.el r.2.2.1.edg))) := h5'
    clear hb2 hb3 h4 h5 h4' h5' y0 y1 y2 y3
    go_wp2
    refine bodyPost_ret (v := .agg #[.int .i64 (rfa r : Nat), .int .i64 (rpa r : Nat), .int .i64 (r.2.1 : Nat), .int .i64 (r.1 : Nat), .slice a1 (rsts r).length cap1, .slice a2 (Im.el r.2.2.1.edg).length cap2, .int .i64 (r.2.2.2 : Nat), .int .i64 (rtop r)]) (by simp [results, Tryz.results34, go_sem, d0, d1, d2, d3, d4, d5, d6, d7]) rfl ?_
    exact ⟨_, _, rfl, owns_base (put8_owns H4.out (Nat.lt_succ_self _)) (Nat.le_succ _), owns_base (put8_owns H5.out (Nat.lt_succ_self _)) (Nat.le_succ _), put8_below HB2.out (Nat.le_refl _)⟩

theorem put14_cell {w : World} {b B o : Nat} {v0 v1 v2 v3 v4 v5 v6 v7 v8 v9 v10 v11 v12 v13 : Value} (h : B ≠ b) : ((((((((((((((w.setCell ⟨b, 0, none⟩ v0).setCell ⟨b, 1, none⟩ v1).setCell ⟨b, 2, none⟩ v2).setCell ⟨b, 3, none⟩ v3).setCell ⟨b, 4, none⟩ v4).setCell ⟨b, 5, none⟩ v5).setCell ⟨b, 6, none⟩ v6).setCell ⟨b, 7, none⟩ v7).setCell ⟨b, 8, none⟩ v8).setCell ⟨b, 9, none⟩ v9).setCell ⟨b, 10, none⟩ v10).setCell ⟨b, 11, none⟩ v11).setCell ⟨b, 12, none⟩ v12).setCell ⟨b, 13, none⟩ v13).cell? ⟨B, o, none⟩ = w.cell? ⟨B, o, none⟩ := by
  have e : ∀ (W : World) (i : Nat) (v : Value), (W.setCell ⟨b, i, none⟩ v).cell? ⟨B, o, none⟩ = W.cell? ⟨B, o, none⟩ := fun W i v => World.cell?_setCell_other _ _ _ _ (fun e => h (congrArg Addr.block e).symm)
  rw [e, e, e, e, e, e, e, e, e, e, e, e, e, e]
theorem bx_zero (w : World) (t : TypeId) : Bx w.heap.size 14 (fun _ => .int .i64 0) (w.alloc (.cells #[.int .i64 0, .int .i64 0, .int .i64 0, .int .i64 0, .int .i64 0, .int .i64 0, .int .i64 0, .int .i64 0, .int .i64 0, .int .i64 0, .int .i64 0, .int .i64 0, .int .i64 0, .int .i64 0] t)) := by
  have c1 := rheap_new w (.cells #[.int .i64 0, .int .i64 0, .int .i64 0, .int .i64 0, .int .i64 0, .int .i64 0, .int .i64 0, .int .i64 0, .int .i64 0, .int .i64 0, .int .i64 0, .int .i64 0, .int .i64 0, .int .i64 0] t)
  refine ⟨?_, fun o => rfree_of c1, by simp⟩
  intro o ho
  refine rcell_of c1 ?_
  obtain rfl | rfl | rfl | rfl | rfl | rfl | rfl | rfl | rfl | rfl | rfl | rfl | rfl | rfl : o = 0 ∨ o = 1 ∨ o = 2 ∨ o = 3 ∨ o = 4 ∨ o = 5 ∨ o = 6 ∨ o = 7 ∨ o = 8 ∨ o = 9 ∨ o = 10 ∨ o = 11 ∨ o = 12 ∨ o = 13 := by omega
  all_goals rfl
theorem bx_below {b c : Nat} {L : Nat → Value} {w w' : World} (h : Bx b c L w) (hb : Below w.heap.size w w') : Bx b c L w' := h.grown (row := none) ⟨hb.os, hb.tape, hb.output, hb.size, fun j hj _ => hb.block j hj⟩ (by simp)
theorem kval_one (k : Nat × List (Nat × Nat)) : ∀ v ∈ [Value.int .i64 (kn k 0 : Nat), Value.int .i64 (kn k 1 : Nat), Value.int .i64 (kn k 2 : Nat), Value.int .i64 (kn k 3 : Nat), Value.int .i64 (kn k 4 : Nat), Value.int .i64 (kn k 5 : Nat), Value.int .i64 (kn k 6 : Nat), Value.int .i64 (kn k 7 : Nat), Value.int .i64 (kn k 8 : Nat), Value.int .i64 (kn k 9 : Nat), Value.int .i64 (kn k 10 : Nat), Value.int .i64 (kn k 11 : Nat), Value.int .i64 (kn k 12 : Nat), Value.int .i64 (kn k 13 : Nat)], Value.oneCell' v = true := by
  intro v hv
  repeat (rcases List.mem_cons.1 hv with rfl | hv; · rfl)
  cases hv
theorem kval_there {b : Nat} {M : Nat → Value} {w : World} (h : Bx b 14 M w) (k : Nat × List (Nat × Nat)) : w.there b 0 [Value.int .i64 (kn k 0 : Nat), Value.int .i64 (kn k 1 : Nat), Value.int .i64 (kn k 2 : Nat), Value.int .i64 (kn k 3 : Nat), Value.int .i64 (kn k 4 : Nat), Value.int .i64 (kn k 5 : Nat), Value.int .i64 (kn k 6 : Nat), Value.int .i64 (kn k 7 : Nat), Value.int .i64 (kn k 8 : Nat), Value.int .i64 (kn k 9 : Nat), Value.int .i64 (kn k 10 : Nat), Value.int .i64 (kn k 11 : Nat), Value.int .i64 (kn k 12 : Nat), Value.int .i64 (kn k 13 : Nat)].length := by
  intro j hj
  have hj' : j < 14 := hj
  have h1 := h.cell j hj'
  have h2 := h.frz j
  rw [Nat.zero_add]
  exact ⟨by rw [h1]; rfl, h2⟩
theorem kval_info (k : Nat × List (Nat × Nat)) : (Tryz.prog.info? 78).map (fun x => x.size) = some [Value.int .i64 (kn k 0 : Nat), Value.int .i64 (kn k 1 : Nat), Value.int .i64 (kn k 2 : Nat), Value.int .i64 (kn k 3 : Nat), Value.int .i64 (kn k 4 : Nat), Value.int .i64 (kn k 5 : Nat), Value.int .i64 (kn k 6 : Nat), Value.int .i64 (kn k 7 : Nat), Value.int .i64 (kn k 8 : Nat), Value.int .i64 (kn k 9 : Nat), Value.int .i64 (kn k 10 : Nat), Value.int .i64 (kn k 11 : Nat), Value.int .i64 (kn k 12 : Nat), Value.int .i64 (kn k 13 : Nat)].length := by kernel_rfl
theorem kval_cells {b : Nat} {M : Nat → Value} {w : World} (h : Bx b 14 M w) (k : Nat × List (Nat × Nat)) : ∀ o, o < 14 → (w.setCells b 0 [Value.int .i64 (kn k 0 : Nat), Value.int .i64 (kn k 1 : Nat), Value.int .i64 (kn k 2 : Nat), Value.int .i64 (kn k 3 : Nat), Value.int .i64 (kn k 4 : Nat), Value.int .i64 (kn k 5 : Nat), Value.int .i64 (kn k 6 : Nat), Value.int .i64 (kn k 7 : Nat), Value.int .i64 (kn k 8 : Nat), Value.int .i64 (kn k 9 : Nat), Value.int .i64 (kn k 10 : Nat), Value.int .i64 (kn k 11 : Nat), Value.int .i64 (kn k 12 : Nat), Value.int .i64 (kn k 13 : Nat)]).cell? ⟨b, o, none⟩ = some (.int .i64 (kn k o : Nat)) := by
  intro o ho
  have := World.rangeAt_setCells_same w b 0 [Value.int .i64 (kn k 0 : Nat), Value.int .i64 (kn k 1 : Nat), Value.int .i64 (kn k 2 : Nat), Value.int .i64 (kn k 3 : Nat), Value.int .i64 (kn k 4 : Nat), Value.int .i64 (kn k 5 : Nat), Value.int .i64 (kn k 6 : Nat), Value.int .i64 (kn k 7 : Nat), Value.int .i64 (kn k 8 : Nat), Value.int .i64 (kn k 9 : Nat), Value.int .i64 (kn k 10 : Nat), Value.int .i64 (kn k 11 : Nat), Value.int .i64 (kn k 12 : Nat), Value.int .i64 (kn k 13 : Nat)] (kval_there h k) o (.int .i64 (kn k o : Nat))
  rw [Nat.zero_add] at this
  refine this ?_
  obtain rfl | rfl | rfl | rfl | rfl | rfl | rfl | rfl | rfl | rfl | rfl | rfl | rfl | rfl : o = 0 ∨ o = 1 ∨ o = 2 ∨ o = 3 ∨ o = 4 ∨ o = 5 ∨ o = 6 ∨ o = 7 ∨ o = 8 ∨ o = 9 ∨ o = 10 ∨ o = 11 ∨ o = 12 ∨ o = 13 := by omega
  all_goals rfl
theorem setCells_below {a : World} {B b : Nat} (hb : B ≤ b) : ∀ (vs : List Value) (o : Nat) (w : World), Below B a w → Below B a (w.setCells b o vs) := by
  intro vs
  induction vs with
  | nil => intro o w h; exact h
  | cons v vs ih => intro o w h; exact ih _ _ (h.setCell (p := ⟨b, o, none⟩) hb v)
/-- no key: the array of zeros. -/
def kz : Value := .agg #[.int .i64 0, .int .i64 0, .int .i64 0, .int .i64 0, .int .i64 0, .int .i64 0, .int .i64 0, .int .i64 0, .int .i64 0, .int .i64 0, .int .i64 0, .int .i64 0, .int .i64 0, .int .i64 0]
/-- what crash answers. -/
def CrashPost (p : Option (Nat × List (Nat × Nat))) (w w' : World) (e : Ending) : Prop :=
  Below w.heap.size w w' ∧ match p with
    | none => e = .returned (.tuple #[kz, .bool false])
    | some k => e = .returned (.tuple #[kval k, .bool true])

set_option maxHeartbeats 1600000 in
set_option maxRecDepth 100000 in
theorem crash_any (s inp : ByteArray) (fuel d B : Nat) (w : World) (hc : Im.chk s = (0, 0)) (hi : inp.size ≤ 24) (hf : fuel ≤ 2000) (hd : d ≤ 6) (hS : SetM s fuel d B w) :
    Calls Tryz.prog 27 #[.pointer (some ⟨B, 0, none⟩), .string inp] w fun e w' => CrashPost (ky s fuel d inp) w w' e := by
  have hst := rep_sts (s := s) (inp := inp) (fuel := fuel) hc hi hf
  have HKY : Hid (ky s fuel d inp = kyR (rep s fuel inp) d) := rfl
  obtain ⟨q, HQ⟩ : ∃ q, Hid (ky s fuel d inp = q) := ⟨_, rfl⟩
  rw [HQ.out] at HKY
  rw [HQ.out]
  have HS : Hid (SetM s fuel d B w) := hS
  have hB : B < w.heap.size := by obtain ⟨_, _, _, _, _, _, _, h3⟩ := hS; exact heap_lt h3
  have hBn : B ≠ w.heap.size := Nat.ne_of_lt hB
  clear hS HQ
  go_enter Tryz.func27, Tryz.ntmps27
  go_wp2_with fail
  refine (srun_any s inp fuel d B _ hc hi hf (HS.out.below ((Below.refl _ _).alloc (Nat.le_refl _) _))).mono ?_
  rintro e w1 ⟨v4, v5, rfl, h4, h5, hb1⟩
  generalize rep s fuel inp = p at *
  have HB : Hid (Below w.heap.size w w1) := below_new hb1
  have hz1 : w.heap.size < w1.heap.size := by have := hb1.size; simp at this; omega
  have hzn : w.heap.size ≠ w1.heap.size := Nat.ne_of_lt hz1
  have hBz : B < w1.heap.size := by omega
  have hBm : B ≠ w1.heap.size := Nat.ne_of_lt hBz
  have hR := bx_below (bx_zero w 78) hb1
  have hrc := hR.cell
  have hrf := hR.frz
  obtain ⟨bp, bs, bc, cs, -, -, -, h3⟩ := HS.out.below HB.out
  obtain ⟨⟨-, -, -, x3⟩, -⟩ := z4_of h3
  have H3 : Hid (w1.heap[B]? = some (.cells #[.slice (some ⟨bs, 0, none⟩) (Im.bt s 0 + 1) cs, .slice (some ⟨bc, 0, none⟩) s.size s.size, .int .i64 (fuel : Nat), .int .i64 (d : Nat)] 66 (0, 0))) := h3
  obtain ⟨a1, cap1, hv1, -, -, -⟩ := owns_shape h4
  obtain ⟨a2, cap2, hv2, -, -, -⟩ := owns_shape h5
  subst hv1 hv2
  have H4 : Hid (w1.ownsRow (w.alloc (.cells #[.int .i64 0, .int .i64 0, .int .i64 0, .int .i64 0, .int .i64 0, .int .i64 0, .int .i64 0, .int .i64 0, .int .i64 0, .int .i64 0, .int .i64 0, .int .i64 0, .int .i64 0, .int .i64 0] 78)).heap.size 34 2 (.slice a1 p.sts.length cap1) p.sts.length (prs p.sts)) := h4
  have HRX : Hid (Bx w.heap.size 14 (fun _ => .int .i64 0) w1) := hR
  obtain ⟨en, fa, pa, kd, sts, eds, k, top⟩ := p
  dsimp only at *
  clear hb1 h4 h5 h3 hR hc hi hf HS
  by_cases he : en = 1
  · have HE : Hid (q = some (kd, sts.take d)) := by
      show q = some (kd, sts.take d)
      rw [HKY.out]; unfold kyR; rw [if_pos he]
    subst he
    go_wp2
    go_region_held (fun W => W.cell? ⟨w1.heap.size, 2, none⟩ = some (.int .i64 (kd : Nat)) ∧ W.cell? ⟨w1.heap.size, 4, none⟩ = some (.slice a1 sts.length cap1) ∧ W.cell? ⟨B, 3, none⟩ = some (.int .i64 (d : Nat))) (first | go_keep | exact ⟨(put14_cell hzn.symm).trans y0, (put14_cell hzn.symm).trans y1, (put14_cell hBn).trans y2⟩)
      (first | (go_at_call 52; go_loud (refine (ckeyOf_any _ kd d sts _ _ hd hst (H4.out.alloc _).drew).mono ?_; rintro e w2 ⟨rfl, hb2⟩; have hb3 := undrew hb2; have c2 := (hb3.block w1.heap.size (by simp)).trans (rheap_new _ _); have y0 : w2.cell? ⟨w1.heap.size, 2, none⟩ = some (.int .i64 (kd : Nat)) := rcell_of c2 rfl; have y1 : w2.cell? ⟨w1.heap.size, 4, none⟩ = some (.slice a1 sts.length cap1) := rcell_of c2 rfl; have y2 : w2.cell? ⟨B, 3, none⟩ = some (.int .i64 (d : Nat)) := (z4_of ((hb3.block B (by simp; omega)).trans ((Below.heap_alloc _ _ _ hBz).trans H3.out))).1.2.2.2; have hR2 := bx_below (HRX.out.alloc _) hb3; have hrc2 := hR2.cell; have hrf2 := hR2.frz; have hz2 := hR2.lt; have hone := kval_one (kd, sts.take d); have hthe := kval_there hR2 (kd, sts.take d); have hinf := kval_info (kd, sts.take d))))
    all_goals
      have HB3 : Hid (Below w.heap.size w w2) := HB.out.trans ((below_new hb3).mono (Nat.le_of_lt hz1))
      have hWc := kval_cells hR2 (kd, sts.take d)
      have HWB : Hid (Below w.heap.size w (w2.setCells w.heap.size 0 [Value.int .i64 (kn (kd, sts.take d) 0 : Nat), Value.int .i64 (kn (kd, sts.take d) 1 : Nat), Value.int .i64 (kn (kd, sts.take d) 2 : Nat), Value.int .i64 (kn (kd, sts.take d) 3 : Nat), Value.int .i64 (kn (kd, sts.take d) 4 : Nat), Value.int .i64 (kn (kd, sts.take d) 5 : Nat), Value.int .i64 (kn (kd, sts.take d) 6 : Nat), Value.int .i64 (kn (kd, sts.take d) 7 : Nat), Value.int .i64 (kn (kd, sts.take d) 8 : Nat), Value.int .i64 (kn (kd, sts.take d) 9 : Nat), Value.int .i64 (kn (kd, sts.take d) 10 : Nat), Value.int .i64 (kn (kd, sts.take d) 11 : Nat), Value.int .i64 (kn (kd, sts.take d) 12 : Nat), Value.int .i64 (kn (kd, sts.take d) 13 : Nat)])) := setCells_below (Nat.le_refl _) _ _ _ HB3.out
      generalize w2.setCells w.heap.size 0 [Value.int .i64 (kn (kd, sts.take d) 0 : Nat), Value.int .i64 (kn (kd, sts.take d) 1 : Nat), Value.int .i64 (kn (kd, sts.take d) 2 : Nat), Value.int .i64 (kn (kd, sts.take d) 3 : Nat), Value.int .i64 (kn (kd, sts.take d) 4 : Nat), Value.int .i64 (kn (kd, sts.take d) 5 : Nat), Value.int .i64 (kn (kd, sts.take d) 6 : Nat), Value.int .i64 (kn (kd, sts.take d) 7 : Nat), Value.int .i64 (kn (kd, sts.take d) 8 : Nat), Value.int .i64 (kn (kd, sts.take d) 9 : Nat), Value.int .i64 (kn (kd, sts.take d) 10 : Nat), Value.int .i64 (kn (kd, sts.take d) 11 : Nat), Value.int .i64 (kn (kd, sts.take d) 12 : Nat), Value.int .i64 (kn (kd, sts.take d) 13 : Nat)] = W at *
      clear hb2 hb3 c2 y0 y1 y2 hR2 hrc hrf hone hthe hinf
      go_wp2
      exact bodyPost_ret (v := .tuple #[kval (kd, sts.take d), .bool true]) (by simp [results, Tryz.results27, go_sem, hWc, kval]) rfl (by rw [HE.out]; exact ⟨HWB.out, rfl⟩)
  · have HE : Hid (q = none) := by
      show q = none
      rw [HKY.out]; unfold kyR; rw [if_neg he]
    have b1 : (((en : Nat) : Int) == 1) = false := by simp; omega
    go_wp2
    exact bodyPost_ret (v := .tuple #[kz, .bool false]) (by simp [results, Tryz.results27, go_sem, hrc, hz1, kz]) rfl (by rw [HE.out]; exact ⟨(put14_below HB.out (Nat.le_refl _)).alloc (put14_below HB.out (Nat.le_refl _)).size _, rfl⟩)
end Go.Proofs.YtbmaiioecnmopaaGreatDoor
