/-
  THE PROGRAM's SIDE (package triage): Explain, verdict, Check. By the verifier of the loop 'triage'.
-/
import Derived.Test.YthljaemhgkepoaaDoorErrC
namespace Go.Proofs.YthljaemhgkepoaaDoor
open Go.RowKit Go.Extern.Stop Go.Stop Go.Extern

/-- what the package-level variables hold. -/
structure Glob (w : World) : Prop where
  tab : Tab w
  et : w.cell? ⟨1, 0, none⟩ = some (.iface 104 (.agg #[.pointer (some ⟨3, 30, none⟩)]))
  br : ∃ b, w.cell? ⟨0, 0, none⟩ = some (.iface 151 (.pointer (some b)))
theorem Glob.below {w w' : World} (h : Glob w) (hb : Below w.heap.size w w') : Glob w' := by
  obtain ⟨b, hbr⟩ := h.br
  exact ⟨h.tab.below hb, (hb.cell (p := ⟨1, 0, none⟩) (cell_lt h.et)).trans h.et, b, (hb.cell (p := ⟨0, 0, none⟩) (cell_lt hbr)).trans hbr⟩

theorem read_all (s : ByteArray) (w : World) (hT : Tab w) : Calls Tryd.prog 26 #[.string s] w fun e w' => ReadPost s w w' e := by
  by_cases h : 200 < s.size
  · exact (read_long s w h).mono fun e w' hb => Or.inl ⟨by unfold Im.chk; rw [if_pos h]; decide, hb⟩
  · cases hp : Im.hd s with
    | some p => exact (read_head s p w (by omega) hp).mono fun e w' hb => Or.inl ⟨by unfold Im.chk; rw [if_neg h, hp]; show (2 : Int) ≠ 0; decide, hb⟩
    | none => exact read_rest s w (by omega) hp hT

/-- how Explain ends. -/
def ExPost (s : ByteArray) (w w' : World) (e : Ending) : Prop :=
  ((Im.chk s).1 ≠ 0 ∧ ∃ er, e = .returned er ∧ Wrapped w.heap.size w' er (Im.chk s).1 (Im.chk s).2 ∧ Below w.heap.size w w') ∨
  (Im.chk s = (0, 0) ∧ e = .returned .nilIface ∧ Below w.heap.size w w')

theorem Wrapped.below {B : Nat} {w w' : World} {er : Value} {c p : Int} (h : Wrapped B w er c p) (hb : Below w.heap.size w w') : Wrapped B w' er c p := by
  rcases h with h | ⟨b, f, fl, rfl, h1, h2, h3⟩
  · exact Or.inl (h.below hb (Nat.le_refl _))
  · exact Or.inr ⟨b, f, fl, rfl, h1, by rw [hb.block b (Array.getElem?_eq_some_iff.1 h2).1]; exact h2, h3.below hb (Nat.le_refl _)⟩

/-- a value of the shape of an error that the program makes. -/
theorem wrapped_shape {B : Nat} {w : World} {er : Value} {c p : Int} (h : Wrapped B w er c p) : ∃ t b, er = .iface t (.pointer (some ⟨b, 0, none⟩)) := by
  rcases h with ⟨b, rfl, _⟩ | ⟨b, f, fl, rfl, _⟩
  · exact ⟨_, _, rfl⟩
  · exact ⟨_, _, rfl⟩

set_option maxHeartbeats 400000 in
theorem explain_any (s : ByteArray) (w : World) (hT : Tab w) : Calls Tryd.prog 10 #[.string s] w fun e w' => ExPost s w w' e := by
  have HT : Hid (Tab w) := hT
  clear hT
  go_enter Tryd.func10, Tryd.ntmps10
  go_wp2_with fail
  refine (read_all s _ HT.out).mono ?_
  rintro e w1 (⟨hc, er, rfl, hw, hb⟩ | ⟨hc, bp, bs, bc, cs, rfl, h1, h2, hM, hb⟩)
  · have H : Hid (∀ o, ExPost s w (w1.alloc o) (.returned er)) := fun o => Or.inl ⟨hc, er, rfl, hw.below ((Below.refl _ _).alloc (Nat.le_refl _) o), hb.alloc hb.size o⟩
    obtain ⟨t, b, rfl⟩ := wrapped_shape hw
    clear hc hw hb
    go_wp2
    go_ret
    exact H.out _
  · have H : Hid (∀ o, ExPost s w (w1.alloc o) (.returned .nilIface)) := fun o => Or.inr ⟨hc, rfl, hb.alloc hb.size o⟩
    clear hc hb hM h1 h2
    go_wp2
    go_ret
    exact H.out _

theorem as_world {e : Addr} {tb : Nat} {old : Value} {w w' : World} {ev : Ending} (ht : w.cell? ⟨tb, 0, none⟩ = some old) (h : AsHit e ⟨tb, 0, none⟩ w w' ev) :
    ev = .returned (.bool true) ∧ w'.cell? ⟨tb, 0, none⟩ = some (.pointer (some e)) ∧ w.grownBy w' (some tb) := by
  obtain ⟨rfl, rfl⟩ := h
  have hlt : tb < w.heap.size := cell_lt ht
  refine ⟨rfl, ?_, ?_⟩
  · have hb : ∀ o, Below w.heap.size w ((asw ⟨tb, 0, none⟩ w).alloc o) := fun o => by
      unfold asw
      exact ((((Below.refl _ _).alloc (Nat.le_refl _) _).alloc (by simp) _).alloc (by simp; omega) _).alloc (by simp; omega) _
    exact World.cell?_setCell_same _ _ _ (((hb _).cell (p := ⟨tb, 0, none⟩) hlt).trans ht)
  · unfold asw
    exact gr_setCell (gr_alloc (gr_alloc (gr_alloc (gr_alloc (World.grownBy.refl w _) _) _) _) _) _ _

/-- how verdict ends. -/
def VPost (c p : Int) (w w' : World) (e : Ending) : Prop := e = .returned (.tuple #[.int .i64 c, .int .i64 p]) ∧ Below w.heap.size w w'

set_option maxHeartbeats 400000 in
theorem verdict_nil (w : World) (hG : Glob w) : Calls Tryd.prog 22 #[.nilIface] w fun e w' => VPost 0 0 w w' e := by
  obtain ⟨b, hbr⟩ := hG.br
  have hlt := cell_lt hbr
  have hbr2 : ∀ o, (w.alloc o).cell? ⟨0, 0, none⟩ = some (.iface 151 (.pointer (some b))) := fun o => (World.cell?_alloc_lt _ _ ⟨0, 0, none⟩ hlt).trans hbr
  go_enter Tryd.func22, Tryd.ntmps22
  go_wp2_with (go_at_call 12; refine (is_nil _ _).mono ?_; rintro e w' ⟨rfl, rfl⟩)
  go_ret2
  exact ⟨rfl, (Below.refl _ _).alloc (Nat.le_refl _) _⟩

set_option maxHeartbeats 1600000 in
theorem verdict_flaw (x : Nat) (c p : Int) (w : World) (hG : Glob w) (hx : w.heap[x]? = some (.cells #[.int .i64 c, .int .i64 p] 37 (0, 0))) :
    Calls Tryd.prog 22 #[.iface 32 (.pointer (some ⟨x, 0, none⟩))] w fun e w' => VPost c p w w' e := by
  obtain ⟨b, hbr⟩ := hG.br
  have hb1 : ∀ o, Below w.heap.size w (w.alloc o) := fun o => (Below.refl _ _).alloc (Nat.le_refl _) o
  have hlt := cell_lt hbr
  have hxl : x < w.heap.size := (Array.getElem?_eq_some_iff.1 hx).1
  have hbr2 := (World.cell?_alloc_lt w (.cells #[.pointer none] 32) ⟨0, 0, none⟩ hlt).trans hbr
  have het2 := (World.cell?_alloc_lt w (.cells #[.pointer none] 32) ⟨1, 0, none⟩ (cell_lt hG.et)).trans hG.et
  have htc : (w.alloc (.cells #[.pointer none] 32)).cell? ⟨w.heap.size, 0, none⟩ = some (.pointer none) := by simp
  have htf : (w.alloc (.cells #[.pointer none] 32)).frozen? ⟨w.heap.size, 0, none⟩ = false := by simp
  have HX : Hid (w.heap[x]? = some (.cells #[.int .i64 c, .int .i64 p] 37 (0, 0))) := hx
  have HET : Hid ((w.alloc (.cells #[.pointer none] 32)).cell? ⟨1, 0, none⟩ = some (.iface 104 (.agg #[.pointer (some ⟨3, 30, none⟩)]))) := het2
  clear hx het2
  go_enter Tryd.func22, Tryd.ntmps22
  go_wp2_with fail
  refine (is_flaw _ b _ hbr2).mono ?_
  rintro e w' ⟨rfl, rfl⟩
  go_wp2_with fail
  refine (as_flaw _ _ _ _ HET.out htc htf).mono ?_
  intro e w2 has
  obtain ⟨rfl, hc2, hgr⟩ := as_world htc has
  have hx2 : w2.heap[x]? = some (.cells #[.int .i64 c, .int .i64 p] 37 (0, 0)) := by
    rw [hgr.block x (by simp; omega) (by simp; omega), Below.heap_alloc _ _ _ hxl]; exact HX.out
  have x0 : w2.cell? ⟨x, 0, none⟩ = some (.int .i64 c) := cell_of_heap hx2 rfl
  have x1 : w2.cell? ⟨x, 1, none⟩ = some (.int .i64 p) := cell_of_heap hx2 rfl
  have hB : Below w.heap.size w w2 := (hb1 _).grown hgr (by simp) (fun k hk => by simp at hk; omega)
  clear has hgr hx2 htc htf hbr2
  go_wp2
  go_quiet (fail)
  go_wp2
  go_ret2
  exact ⟨rfl, below_drewN hB _⟩

set_option maxHeartbeats 1600000 in
theorem verdict_wrap (y x : Nat) (f c p : Int) (w : World) (hG : Glob w) (hy : w.heap[y]? = some (.cells #[.int .i64 f, .iface 32 (.pointer (some ⟨x, 0, none⟩))] 102 (0, 0)))
    (hx : w.heap[x]? = some (.cells #[.int .i64 c, .int .i64 p] 37 (0, 0))) :
    Calls Tryd.prog 22 #[.iface 100 (.pointer (some ⟨y, 0, none⟩))] w fun e w' => VPost c p w w' e := by
  obtain ⟨b, hbr⟩ := hG.br
  have hb1 : ∀ o, Below w.heap.size w (w.alloc o) := fun o => (Below.refl _ _).alloc (Nat.le_refl _) o
  have hlt := cell_lt hbr
  have hxl : x < w.heap.size := (Array.getElem?_eq_some_iff.1 hx).1
  have hyl : y < w.heap.size := (Array.getElem?_eq_some_iff.1 hy).1
  have hbr2 := (World.cell?_alloc_lt w (.cells #[.pointer none] 32) ⟨0, 0, none⟩ hlt).trans hbr
  have het2 := (World.cell?_alloc_lt w (.cells #[.pointer none] 32) ⟨1, 0, none⟩ (cell_lt hG.et)).trans hG.et
  have htc : (w.alloc (.cells #[.pointer none] 32)).cell? ⟨w.heap.size, 0, none⟩ = some (.pointer none) := by simp
  have htf : (w.alloc (.cells #[.pointer none] 32)).frozen? ⟨w.heap.size, 0, none⟩ = false := by simp
  have hyc : (w.alloc (.cells #[.pointer none] 32)).cell? ⟨y, 1, none⟩ = some (.iface 32 (.pointer (some ⟨x, 0, none⟩))) := ((hb1 _).cell (p := ⟨y, 1, none⟩) hyl).trans (cell_of_heap hy rfl)
  have HX : Hid (w.heap[x]? = some (.cells #[.int .i64 c, .int .i64 p] 37 (0, 0))) := hx
  have HET : Hid ((w.alloc (.cells #[.pointer none] 32)).cell? ⟨1, 0, none⟩ = some (.iface 104 (.agg #[.pointer (some ⟨3, 30, none⟩)]))) := het2
  clear hx hy het2
  go_enter Tryd.func22, Tryd.ntmps22
  go_wp2_with fail
  refine (is_wrap y ⟨x, 0, none⟩ b _ hbr2 hyc).mono ?_
  rintro e w' ⟨rfl, rfl⟩
  go_wp2_with fail
  refine (as_wrap y ⟨x, 0, none⟩ _ _ _ hyc HET.out htc htf).mono ?_
  intro e w2 has
  obtain ⟨rfl, hc2, hgr⟩ := as_world htc has
  have hx2 : w2.heap[x]? = some (.cells #[.int .i64 c, .int .i64 p] 37 (0, 0)) := by
    rw [hgr.block x (by simp; omega) (by simp; omega), Below.heap_alloc _ _ _ hxl]; exact HX.out
  have x0 : w2.cell? ⟨x, 0, none⟩ = some (.int .i64 c) := cell_of_heap hx2 rfl
  have x1 : w2.cell? ⟨x, 1, none⟩ = some (.int .i64 p) := cell_of_heap hx2 rfl
  have hB : Below w.heap.size w w2 := (hb1 _).grown hgr (by simp) (fun k hk => by simp at hk; omega)
  clear has hgr hx2 htc htf hbr2 hyc
  go_wp2
  go_quiet (fail)
  go_wp2
  go_ret2
  exact ⟨rfl, below_drewN hB _⟩

theorem verdict_any (B : Nat) (er : Value) (c p : Int) (w : World) (hG : Glob w) (h : Wrapped B w er c p) : Calls Tryd.prog 22 #[er] w fun e w' => VPost c p w w' e := by
  rcases h with ⟨b, rfl, _, h2⟩ | ⟨b, f, fl, rfl, _, h2, ⟨x, rfl, _, h3⟩⟩
  · exact verdict_flaw b c p w hG h2
  · exact verdict_wrap b x f c p w hG h2 h3

set_option maxHeartbeats 400000 in
theorem codeCheck_any (s : ByteArray) (w : World) (hG : Glob w) : Calls Tryd.prog 7 #[.string s] w fun e w' => VPost (Im.chk s).1 (Im.chk s).2 w w' e := by
  have HG : Hid (Glob w) := hG
  clear hG
  go_enter Tryd.func7, Tryd.ntmps7
  go_wp2_with fail
  refine (explain_any s _ HG.out.tab).mono ?_
  rintro e w1 (⟨hc, er, rfl, hw, hb⟩ | ⟨hc, rfl, hb⟩)
  · have hG1 := HG.out.below hb
    have HW : Hid (Wrapped w.heap.size w1 er (Im.chk s).1 (Im.chk s).2) := hw
    have HG1 : Hid (Glob w1) := hG1
    obtain ⟨t, b, rfl⟩ := wrapped_shape hw
    clear hc hw hG1
    go_wp2_with fail
    refine (verdict_any w.heap.size _ _ _ _ HG1.out HW.out).mono ?_
    rintro e w2 ⟨rfl, hb2⟩
    have hB := hb.trans (hb2.mono hb.size)
    clear hb hb2
    go_wp2
    go_ret2
    exact ⟨rfl, hB⟩
  · have HG1 : Hid (Glob w1) := HG.out.below hb
    have HC : Hid (Im.chk s = (0, 0)) := hc
    clear hc
    go_wp2_with fail
    refine (verdict_nil _ HG1.out).mono ?_
    rintro e w2 ⟨rfl, hb2⟩
    have hB := hb.trans (hb2.mono hb.size)
    clear hb hb2
    go_wp2
    go_ret2
    exact ⟨by rw [HC.out]; rfl, hB⟩
end Go.Proofs.YthljaemhgkepoaaDoor
