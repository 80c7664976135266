/-
  THE LAWS Checks AND Explains: their walks. By the verifier of the loop 'triage'.
-/
import Derived.Test.YtbmaiioecnmopaaDoorJ05
namespace Go.Proofs.YtbmaiioecnmopaaDoor
open Go.RowKit Go.Extern.Stop Go.Stop Go.Extern

set_option maxHeartbeats 400000 in
theorem checks_walk (s : ByteArray) (w : World) (hG : Glob w) : Calls Tryd.prog 3 #[.string s] w fun e w' => e = .returned (.bool true) ∧ Below w.heap.size w w' := by
  have HG : Hid (Glob w) := hG
  clear hG
  go_enter Tryd.func3, Tryd.ntmps3
  go_wp2_with fail
  refine (codeCheck_any s _ HG.out).mono ?_
  rintro e w1 ⟨rfl, hb1⟩
  go_wp2_with fail
  refine (check_any s _).mono ?_
  rintro e w2 ⟨rfl, hb2⟩
  have hB := hb1.trans (hb2.mono hb1.size)
  clear hb1 hb2
  generalize (Im.chk s).1 = c at *
  generalize (Im.chk s).2 = p at *
  go_wp2_with (go_at_call 13; refine (num_any _ _).mono ?_; rintro e w' ⟨rfl, rfl⟩)
  go_ret
  exact ⟨by simp, hB⟩

set_option maxHeartbeats 1600000 in
theorem explains_walk (s : ByteArray) (w : World) (hG : Glob w) : Calls Tryd.prog 4 #[.string s] w fun e w' => e = .returned (.bool true) ∧ Below w.heap.size w w' := by
  have HG : Hid (Glob w) := hG
  clear hG
  go_enter Tryd.func4, Tryd.ntmps4
  go_wp2_with fail
  refine (explain_any s _ HG.out.tab).mono ?_
  rintro e w1 (⟨hc, er, rfl, hw, hb⟩ | ⟨hc, rfl, hb⟩)
  · have HW : Hid (Wrapped w.heap.size w1 er (Im.chk s).1 (Im.chk s).2) := hw
    have hne : ((Im.chk s).1 == 0) = false := by rw [beq_eq_false_iff_ne]; exact hc
    obtain ⟨t, b, rfl⟩ := wrapped_shape hw
    clear hc hw
    go_wp2_with fail
    refine (check_any s _).mono ?_
    rintro e w2 ⟨rfl, hb2⟩
    have hB := hb.trans (hb2.mono hb.size)
    have HG2 : Hid (Glob w2) := HG.out.below hB
    have HW2 : Hid (Wrapped w.heap.size w2 (.iface t (.pointer (some ⟨b, 0, none⟩))) (Im.chk s).1 (Im.chk s).2) := HW.out.below hb2
    clear hb hb2 HW HG
    generalize (Im.chk s).1 = c at *
    generalize (Im.chk s).2 = p at *
    obtain ⟨bb, hbr⟩ := HG2.out.br
    have hlt := cell_lt hbr
    have htc : (w2.alloc (.cells #[.pointer none] 32)).cell? ⟨w2.heap.size, 0, none⟩ = some (.pointer none) := by simp
    have htf : (w2.alloc (.cells #[.pointer none] 32)).frozen? ⟨w2.heap.size, 0, none⟩ = false := by simp
    have HET : Hid ((w2.alloc (.cells #[.pointer none] 32)).cell? ⟨1, 0, none⟩ = some (.iface 145 (.agg #[.pointer (some ⟨3, 30, none⟩)]))) := (World.cell?_alloc_lt w2 (.cells #[.pointer none] 32) ⟨1, 0, none⟩ (cell_lt HG2.out.et)).trans HG2.out.et
    have hbA : Below w2.heap.size w2 (w2.alloc (.cells #[.pointer none] 32)) := (Below.refl _ _).alloc (Nat.le_refl _) _
    rcases HW2.out with ⟨x, hx0, _, hx⟩ | ⟨y, f, fl, hy0, _, hy, ⟨x, rfl, _, hx⟩⟩
    · obtain ⟨rfl, rfl⟩ : t = 32 ∧ b = x := by simpa using hx0
      clear hx0 HW2
      have hxl : b < w2.heap.size := (Array.getElem?_eq_some_iff.1 hx).1
      have HX : Hid (w2.heap[b]? = some (.cells #[.int .i64 c, .int .i64 p] 37 (0, 0))) := hx
      clear hx
      go_wp2_with fail
      refine (as_flaw _ _ _ _ HET.out htc htf).mono ?_
      intro e w3 has
      obtain ⟨rfl, hc2, hgr⟩ := as_world htc has
      have hx2 : w3.heap[b]? = some (.cells #[.int .i64 c, .int .i64 p] 37 (0, 0)) := by
        rw [hgr.block b (by simp; omega) (by simp; omega), Below.heap_alloc _ _ _ hxl]; exact HX.out
      have x0 : w3.cell? ⟨b, 0, none⟩ = some (.int .i64 c) := cell_of_heap hx2 rfl
      have x1 : w3.cell? ⟨b, 1, none⟩ = some (.int .i64 p) := cell_of_heap hx2 rfl
      have hB2 : Below w2.heap.size w2 w3 := hbA.grown hgr (by simp) (fun k hk => by simp at hk; omega)
      have hbr3 := (hB2.cell (p := ⟨0, 0, none⟩) hlt).trans hbr
      have hB3 := hB.trans (hB2.mono hB.size)
      clear has hgr hx2 htc htf hB2 hB hbA
      go_wp2_with fail
      refine (is_flaw _ bb _ hbr3).mono ?_
      rintro e w' ⟨rfl, rfl⟩
      go_wp2_with (go_at_call 13; refine (num_any _ _).mono ?_; rintro e w' ⟨rfl, rfl⟩)
      go_ret
      exact ⟨by simp, hB3⟩
    · obtain ⟨rfl, rfl⟩ : t = 141 ∧ b = y := by simpa using hy0
      clear hy0 HW2
      have hxl : x < w2.heap.size := (Array.getElem?_eq_some_iff.1 hx).1
      have hyl : b < w2.heap.size := (Array.getElem?_eq_some_iff.1 hy).1
      have HX : Hid (w2.heap[x]? = some (.cells #[.int .i64 c, .int .i64 p] 37 (0, 0))) := hx
      have hyc : (w2.alloc (.cells #[.pointer none] 32)).cell? ⟨b, 1, none⟩ = some (.iface 32 (.pointer (some ⟨x, 0, none⟩))) := (hbA.cell (p := ⟨b, 1, none⟩) hyl).trans (cell_of_heap hy rfl)
      have HY : Hid (w2.cell? ⟨b, 1, none⟩ = some (.iface 32 (.pointer (some ⟨x, 0, none⟩)))) := cell_of_heap hy rfl
      clear hx hy
      go_wp2_with fail
      refine (as_wrap b ⟨x, 0, none⟩ _ _ _ hyc HET.out htc htf).mono ?_
      intro e w3 has
      obtain ⟨rfl, hc2, hgr⟩ := as_world htc has
      have hx2 : w3.heap[x]? = some (.cells #[.int .i64 c, .int .i64 p] 37 (0, 0)) := by
        rw [hgr.block x (by simp; omega) (by simp; omega), Below.heap_alloc _ _ _ hxl]; exact HX.out
      have x0 : w3.cell? ⟨x, 0, none⟩ = some (.int .i64 c) := cell_of_heap hx2 rfl
      have x1 : w3.cell? ⟨x, 1, none⟩ = some (.int .i64 p) := cell_of_heap hx2 rfl
      have hB2 : Below w2.heap.size w2 w3 := hbA.grown hgr (by simp) (fun k hk => by simp at hk; omega)
      have hbr3 := (hB2.cell (p := ⟨0, 0, none⟩) hlt).trans hbr
      have hy3 := (hB2.cell (p := ⟨b, 1, none⟩) hyl).trans HY.out
      have hB3 := hB.trans (hB2.mono hB.size)
      clear has hgr hx2 htc htf hB2 hB hyc hbA
      go_wp2_with fail
      refine (is_wrap b ⟨x, 0, none⟩ bb _ hbr3 hy3).mono ?_
      rintro e w' ⟨rfl, rfl⟩
      go_wp2_with (go_at_call 13; refine (num_any _ _).mono ?_; rintro e w' ⟨rfl, rfl⟩)
      go_ret
      exact ⟨by simp, hB3⟩
  · have HC : Hid (Im.chk s = (0, 0)) := hc
    clear hc
    go_wp2_with fail
    refine (check_any s _).mono ?_
    rintro e w2 ⟨rfl, hb2⟩
    have hB := hb.trans (hb2.mono hb.size)
    clear hb hb2
    rw [HC.out]
    go_wp2
    go_ret
    exact ⟨by simp, hB⟩
end Go.Proofs.YtbmaiioecnmopaaDoor
