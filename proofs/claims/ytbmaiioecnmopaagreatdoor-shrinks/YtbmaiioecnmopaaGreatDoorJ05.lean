/-
  ErrC, LawA, LawN, Laid: THESE TEXTS, JOINED. By the verifier of the loop 'triage'.
-/
import Derived.Test.YtbmaiioecnmopaaGreatDoorJ04
import Derived.Test.YtbmaiioecnmopaaGreatDoorRows
import Derived.ProofKit
import Derived.LaidMore
import Derived.LaidHandle
import Derived.OpenShut
import Derived.Stop.Joined
import Derived.Stop.LaidErr
/-
  errors.As at an *inFunction with a *Flaw in it. By the verifier of the loop 'triage'.
-/
namespace Go.Proofs.YtbmaiioecnmopaaGreatDoor
open Go.RowKit Go.Extern.Stop Go.Stop Go.Extern

set_option maxHeartbeats 4000000 in
theorem as_wrap (y : Nat) (e t : Addr) (old : Value) (w : World) (hy : w.cell? ⟨y, 1, none⟩ = some (.iface 106 (.pointer (some e)))) (hg : w.cell? ⟨1, 0, none⟩ = some (.iface 188 (.agg #[.pointer (some ⟨3, 72, none⟩)]))) (ht0 : w.cell? t = some old) (hf0 : w.frozen? t = false) :
    Calls Tryz.prog 40 #[.iface 117 (.pointer (some ⟨y, 0, none⟩)), .iface 109 (.pointer (some t))] w fun ev w' => AsHit e t w w' ev := by
  have h6 := @run_callFunc_extern Tryz.prog 65 _ (fun args => ReflectliteValue.unpack (args.getD 0 (.tuple #[]))) Tryz.func65 (by kernel_rfl) (by kernel_rfl) (by kernel_rfl) (by kernel_rfl)
  have h7 := @run_callFunc_extern Tryz.prog 66 _ (ReflectliteValue.methodAny (ReflectliteValue.valueError "reflectlite.Value.Type" 0) (fun t _ _ _ => ReflectliteType.toType t)) Tryz.func66 (by kernel_rfl) (by kernel_rfl) (by kernel_rfl) (by kernel_rfl)
  have h8 := @run_callFunc_extern Tryz.prog 67 _ (ReflectliteValue.method (ReflectliteValue.valueError "reflectlite.Value.IsNil" 0) ReflectliteValue.isNil) Tryz.func67 (by kernel_rfl) (by kernel_rfl) (by kernel_rfl) (by kernel_rfl)
  have h27 := @run_callFunc_extern Tryz.prog 140 _ (ReflectliteType.abiMethod kindF) Tryz.func140 (by kernel_rfl) (by kernel_rfl) (by kernel_rfl) (by kernel_rfl)
  have h37 := @run_callFunc_extern Tryz.prog 154 _ (ReflectliteType.method ReflectliteType.elem) Tryz.func154 (by kernel_rfl) (by kernel_rfl) (by kernel_rfl) (by kernel_rfl)
  have h38 := @run_callFunc_extern Tryz.prog 155 _ (ReflectliteType.relation "Implements" ReflectliteType.implements_) Tryz.func155 (by kernel_rfl) (by kernel_rfl) (by kernel_rfl) (by kernel_rfl)
  have h10 := @run_callFunc_extern Tryz.prog 63 _ ReflectliteType.typeOf Tryz.func63 (by kernel_rfl) (by kernel_rfl) (by kernel_rfl) (by kernel_rfl)
  have h35 := @run_callFunc_extern Tryz.prog 152 _ (ReflectliteType.relation "AssignableTo" ReflectliteType.assignableTo) Tryz.func152 (by kernel_rfl) (by kernel_rfl) (by kernel_rfl) (by kernel_rfl)
  have h11 := @run_callFunc_extern Tryz.prog 103 _ (ReflectliteValue.method (ReflectliteValue.valueError "reflectlite.Value.Elem" 0) ReflectliteValue.elem) Tryz.func103 (by kernel_rfl) (by kernel_rfl) (by kernel_rfl) (by kernel_rfl)
  have h12 := @run_callFunc_extern Tryz.prog 104 _ ReflectliteValue.set Tryz.func104 (by kernel_rfl) (by kernel_rfl) (by kernel_rfl) (by kernel_rfl)
  have tO := Tryz.typeOfP
  have tI := Tryz.typeOfI
  have aI := Tryz.assignableI
  have nI := Tryz.noAsI
  have uI := Tryz.hasUnwrapI
  have mUI := Tryz.methodUnwrapI
  have hyl : y < w.heap.size := cell_lt hy
  have hy3 : (((w.alloc (.cells #[.pointer (some t)] 109)).alloc (.cells #[.pointer (some ⟨3, 109, none⟩), .pointer (some ⟨w.heap.size, 0, none⟩), .int .u64 150] 151)).alloc (.cells #[.pointer (some ⟨3, 109, none⟩), .pointer (some ⟨w.heap.size, 0, none⟩), .int .u64 150] 151)).cell? ⟨y, 1, none⟩ = some (.iface 106 (.pointer (some e))) := by
    rw [World.cell?_alloc_lt _ _ ⟨y, 1, none⟩ (by simp; omega), World.cell?_alloc_lt _ _ ⟨y, 1, none⟩ (by simp; omega), World.cell?_alloc_lt _ _ ⟨y, 1, none⟩ hyl]; exact hy
  have mA := Tryz.methodAssignableTo
  have a25 := Tryz.assignableP
  have v25 := Tryz.valueOfP
  have f6 := Tryz.valueOfPP
  have f7 := Tryz.typePP
  have mK := Tryz.methodKind
  have mE := Tryz.methodElem
  have mI := Tryz.methodImplements
  have k27 := Tryz.kindPP
  have k25 := Tryz.kindP
  have e27 := Tryz.elemPP
  have i25 := Tryz.implementsP
  have n8 := Tryz.isNilPP ⟨w.heap.size, 0, none⟩ t ((w.alloc (.cells #[.pointer (some t)] 109)).alloc (.cells #[.pointer (some ⟨3, 109, none⟩), .pointer (some ⟨w.heap.size, 0, none⟩), .int .u64 150] 151)) (by simp)
  have hlt : 1 < w.heap.size := cell_lt hg
  have hg2 : ((w.alloc (.cells #[.pointer (some t)] 109)).alloc (.cells #[.pointer (some ⟨3, 109, none⟩), .pointer (some ⟨w.heap.size, 0, none⟩), .int .u64 150] 151)).cell? ⟨1, 0, none⟩ = some (.iface 188 (.agg #[.pointer (some ⟨3, 72, none⟩)])) := by
    rw [World.cell?_alloc_lt _ _ ⟨1, 0, none⟩ (by simp; omega), World.cell?_alloc_lt _ _ ⟨1, 0, none⟩ hlt]; exact hg
  have htl : t.block < w.heap.size := cell_lt ht0
  have el := Tryz.elemVPP ⟨w.heap.size, 0, none⟩ t (((w.alloc (.cells #[.pointer (some t)] 109)).alloc (.cells #[.pointer (some ⟨3, 109, none⟩), .pointer (some ⟨w.heap.size, 0, none⟩), .int .u64 150] 151)).alloc (.cells #[.pointer (some ⟨3, 109, none⟩), .pointer (some ⟨w.heap.size, 0, none⟩), .int .u64 150] 151)) (by rw [World.cell?_alloc_lt _ _ ⟨w.heap.size, 0, none⟩ (by simp; omega)]; simp)
  have st := Tryz.setP t ⟨w.heap.size + 1 + 1 + 1, 0, none⟩ e old ((((w.alloc (.cells #[.pointer (some t)] 109)).alloc (.cells #[.pointer (some ⟨3, 109, none⟩), .pointer (some ⟨w.heap.size, 0, none⟩), .int .u64 150] 151)).alloc (.cells #[.pointer (some ⟨3, 109, none⟩), .pointer (some ⟨w.heap.size, 0, none⟩), .int .u64 150] 151)).alloc (.cells #[.pointer (some e)] 106))
    (by rw [World.cell?_alloc_at _ _ _ _ (by simp)]; rfl)
    (by rw [World.cell?_alloc_lt _ _ t (by simp; omega), World.cell?_alloc_lt _ _ t (by simp; omega), World.cell?_alloc_lt _ _ t (by simp; omega), World.cell?_alloc_lt _ _ t htl]; exact ht0)
    (by rw [World.frozen?_alloc_old _ _ t (by simp; omega), World.frozen?_alloc_old _ _ t (by simp; omega), World.frozen?_alloc_old _ _ t (by simp; omega), World.frozen?_alloc_old _ _ t (Nat.ne_of_lt htl)]; exact hf0)
  go_enter Tryz.func40, Tryz.ntmps40
  go_wp2
  refine wp_loop_rounds 2 ?_
  rw [rounds_succ]
  go_wp2
  rw [rounds_succ]
  go_wp2
  go_ret
  exact ⟨rfl, rfl⟩
end Go.Proofs.YtbmaiioecnmopaaGreatDoor

/-
  THE PROGRAM's SIDE (package triage): Explain, verdict, Check. By the verifier of the loop 'triage'.
-/
namespace Go.Proofs.YtbmaiioecnmopaaGreatDoor
open Go.RowKit Go.Extern.Stop Go.Stop Go.Extern

/-- what the package-level variables hold. -/
structure Glob (w : World) : Prop where
  tab : Tab w
  et : w.cell? ⟨1, 0, none⟩ = some (.iface 188 (.agg #[.pointer (some ⟨3, 72, none⟩)]))
  br : ∃ b, w.cell? ⟨0, 0, none⟩ = some (.iface 225 (.pointer (some b)))
theorem Glob.below {w w' : World} (h : Glob w) (hb : Below w.heap.size w w') : Glob w' := by
  obtain ⟨b, hbr⟩ := h.br
  exact ⟨h.tab.below hb, (hb.cell (p := ⟨1, 0, none⟩) (cell_lt h.et)).trans h.et, b, (hb.cell (p := ⟨0, 0, none⟩) (cell_lt hbr)).trans hbr⟩

theorem read_all (s : ByteArray) (w : World) (hT : Tab w) : Calls Tryz.prog 25 #[.string s] w fun e w' => ReadPost s w w' e := by
  by_cases h : 200 < s.size
  · exact (read_long s w h).mono fun e w' hb => Or.inl ⟨by unfold Im.chk; rw [if_pos h]; decide, hb⟩
  · cases hp : Im.hd s with
    | some p => exact (read_head s p w (by omega) hp).mono fun e w' hb => Or.inl ⟨by unfold Im.chk; rw [if_neg h, hp]; show (2 : Int) ≠ 0; decide, hb⟩
    | none => exact read_rest s w (by omega) hp hT

/-- how Explain ends. -/
def ExPost (s : ByteArray) (w w' : World) (e : Ending) : Prop :=
  ((Im.chk s).1 ≠ 0 ∧ ∃ er, e = .returned er ∧ Wrapped w.heap.size w' er (Im.chk s).1 (Im.chk s).2 ∧ Below w.heap.size w w') ∨
  (Im.chk s = (0, 0) ∧ e = .returned .nilIface ∧ Below w.heap.size w w')

theorem Wrapped.below {B : Nat} {w w' : World} {er : Value} {c p : Int} (h : Wrapped B w er c p) (hb : Below w.heap.size w w') : Wrapped B w' er c p := by
  rcases h with h | ⟨b, f, fl, rfl, h1, h2, h3⟩
  · exact Or.inl (h.below hb (Nat.le_refl _))
  · exact Or.inr ⟨b, f, fl, rfl, h1, by rw [hb.block b (Array.getElem?_eq_some_iff.1 h2).1]; exact h2, h3.below hb (Nat.le_refl _)⟩

/-- a value of the shape of an error that the program makes. -/
theorem wrapped_shape {B : Nat} {w : World} {er : Value} {c p : Int} (h : Wrapped B w er c p) : ∃ t b, er = .iface t (.pointer (some ⟨b, 0, none⟩)) := by
  rcases h with ⟨b, rfl, _⟩ | ⟨b, f, fl, rfl, _⟩
  · exact ⟨_, _, rfl⟩
  · exact ⟨_, _, rfl⟩

set_option maxHeartbeats 400000 in
theorem explain_any (s : ByteArray) (w : World) (hT : Tab w) : Calls Tryz.prog 24 #[.string s] w fun e w' => ExPost s w w' e := by
  have HT : Hid (Tab w) := hT
  clear hT
  go_enter Tryz.func24, Tryz.ntmps24
  go_wp2_with fail
  refine (read_all s _ HT.out).mono ?_
  rintro e w1 (⟨hc, er, rfl, hw, hb⟩ | ⟨hc, bp, bs, bc, cs, rfl, h1, h2, hM, hb, -, -⟩)
  · have H : Hid (∀ o, ExPost s w (w1.alloc o) (.returned er)) := fun o => Or.inl ⟨hc, er, rfl, hw.below ((Below.refl _ _).alloc (Nat.le_refl _) o), hb.alloc hb.size o⟩
    obtain ⟨t, b, rfl⟩ := wrapped_shape hw
    clear hc hw hb
    go_wp2
    go_ret
    exact H.out _
  · have H : Hid (∀ o, ExPost s w (w1.alloc o) (.returned .nilIface)) := fun o => Or.inr ⟨hc, rfl, hb.alloc hb.size o⟩
    clear hc hb hM h1 h2
    go_wp2
    go_ret
    exact H.out _

theorem as_world {e : Addr} {tb : Nat} {old : Value} {w w' : World} {ev : Ending} (ht : w.cell? ⟨tb, 0, none⟩ = some old) (h : AsHit e ⟨tb, 0, none⟩ w w' ev) :
    ev = .returned (.bool true) ∧ w'.cell? ⟨tb, 0, none⟩ = some (.pointer (some e)) ∧ w.grownBy w' (some tb) := by
  obtain ⟨rfl, rfl⟩ := h
  have hlt : tb < w.heap.size := cell_lt ht
  refine ⟨rfl, ?_, ?_⟩
  · have hb : ∀ o, Below w.heap.size w ((asw ⟨tb, 0, none⟩ w).alloc o) := fun o => by
      unfold asw
      exact ((((Below.refl _ _).alloc (Nat.le_refl _) _).alloc (by simp) _).alloc (by simp; omega) _).alloc (by simp; omega) _
    exact World.cell?_setCell_same _ _ _ (((hb _).cell (p := ⟨tb, 0, none⟩) hlt).trans ht)
  · unfold asw
    exact gr_setCell (gr_alloc (gr_alloc (gr_alloc (gr_alloc (World.grownBy.refl w _) _) _) _) _) _ _

/-- how verdict ends. -/
def VPost (c p : Int) (w w' : World) (e : Ending) : Prop := e = .returned (.tuple #[.int .i64 c, .int .i64 p]) ∧ Below w.heap.size w w'

set_option maxHeartbeats 400000 in
theorem verdict_nil (w : World) (hG : Glob w) : Calls Tryz.prog 23 #[.nilIface] w fun e w' => VPost 0 0 w w' e := by
  obtain ⟨b, hbr⟩ := hG.br
  have hlt := cell_lt hbr
  have hbr2 : ∀ o, (w.alloc o).cell? ⟨0, 0, none⟩ = some (.iface 225 (.pointer (some b))) := fun o => (World.cell?_alloc_lt _ _ ⟨0, 0, none⟩ hlt).trans hbr
  go_enter Tryz.func23, Tryz.ntmps23
  go_wp2_with (go_at_call 39; refine (is_nil _ _).mono ?_; rintro e w' ⟨rfl, rfl⟩)
  go_ret2
  exact ⟨rfl, (Below.refl _ _).alloc (Nat.le_refl _) _⟩

set_option maxHeartbeats 1600000 in
theorem verdict_flaw (x : Nat) (c p : Int) (w : World) (hG : Glob w) (hx : w.heap[x]? = some (.cells #[.int .i64 c, .int .i64 p] 111 (0, 0))) :
    Calls Tryz.prog 23 #[.iface 106 (.pointer (some ⟨x, 0, none⟩))] w fun e w' => VPost c p w w' e := by
  obtain ⟨b, hbr⟩ := hG.br
  have hb1 : ∀ o, Below w.heap.size w (w.alloc o) := fun o => (Below.refl _ _).alloc (Nat.le_refl _) o
  have hlt := cell_lt hbr
  have hxl : x < w.heap.size := (Array.getElem?_eq_some_iff.1 hx).1
  have hbr2 := (World.cell?_alloc_lt w (.cells #[.pointer none] 106) ⟨0, 0, none⟩ hlt).trans hbr
  have het2 := (World.cell?_alloc_lt w (.cells #[.pointer none] 106) ⟨1, 0, none⟩ (cell_lt hG.et)).trans hG.et
  have htc : (w.alloc (.cells #[.pointer none] 106)).cell? ⟨w.heap.size, 0, none⟩ = some (.pointer none) := by simp
  have htf : (w.alloc (.cells #[.pointer none] 106)).frozen? ⟨w.heap.size, 0, none⟩ = false := by simp
  have HX : Hid (w.heap[x]? = some (.cells #[.int .i64 c, .int .i64 p] 111 (0, 0))) := hx
  have HET : Hid ((w.alloc (.cells #[.pointer none] 106)).cell? ⟨1, 0, none⟩ = some (.iface 188 (.agg #[.pointer (some ⟨3, 72, none⟩)]))) := het2
  clear hx het2
  go_enter Tryz.func23, Tryz.ntmps23
  go_wp2_with fail
  refine (is_flaw _ b _ hbr2).mono ?_
  rintro e w' ⟨rfl, rfl⟩
  go_wp2_with fail
  refine (as_flaw _ _ _ _ HET.out htc htf).mono ?_
  intro e w2 has
  obtain ⟨rfl, hc2, hgr⟩ := as_world htc has
  have hx2 : w2.heap[x]? = some (.cells #[.int .i64 c, .int .i64 p] 111 (0, 0)) := by
    rw [hgr.block x (by simp; omega) (by simp; omega), Below.heap_alloc _ _ _ hxl]; exact HX.out
  have x0 : w2.cell? ⟨x, 0, none⟩ = some (.int .i64 c) := cell_of_heap hx2 rfl
  have x1 : w2.cell? ⟨x, 1, none⟩ = some (.int .i64 p) := cell_of_heap hx2 rfl
  have hB : Below w.heap.size w w2 := (hb1 _).grown hgr (by simp) (fun k hk => by simp at hk; omega)
  clear has hgr hx2 htc htf hbr2
  go_wp2
  go_quiet (fail)
  go_wp2
  go_ret2
  exact ⟨rfl, below_drewN hB _⟩

set_option maxHeartbeats 1600000 in
theorem verdict_wrap (y x : Nat) (f c p : Int) (w : World) (hG : Glob w) (hy : w.heap[y]? = some (.cells #[.int .i64 f, .iface 106 (.pointer (some ⟨x, 0, none⟩))] 119 (0, 0)))
    (hx : w.heap[x]? = some (.cells #[.int .i64 c, .int .i64 p] 111 (0, 0))) :
    Calls Tryz.prog 23 #[.iface 117 (.pointer (some ⟨y, 0, none⟩))] w fun e w' => VPost c p w w' e := by
  obtain ⟨b, hbr⟩ := hG.br
  have hb1 : ∀ o, Below w.heap.size w (w.alloc o) := fun o => (Below.refl _ _).alloc (Nat.le_refl _) o
  have hlt := cell_lt hbr
  have hxl : x < w.heap.size := (Array.getElem?_eq_some_iff.1 hx).1
  have hyl : y < w.heap.size := (Array.getElem?_eq_some_iff.1 hy).1
  have hbr2 := (World.cell?_alloc_lt w (.cells #[.pointer none] 106) ⟨0, 0, none⟩ hlt).trans hbr
  have het2 := (World.cell?_alloc_lt w (.cells #[.pointer none] 106) ⟨1, 0, none⟩ (cell_lt hG.et)).trans hG.et
  have htc : (w.alloc (.cells #[.pointer none] 106)).cell? ⟨w.heap.size, 0, none⟩ = some (.pointer none) := by simp
  have htf : (w.alloc (.cells #[.pointer none] 106)).frozen? ⟨w.heap.size, 0, none⟩ = false := by simp
  have hyc : (w.alloc (.cells #[.pointer none] 106)).cell? ⟨y, 1, none⟩ = some (.iface 106 (.pointer (some ⟨x, 0, none⟩))) := ((hb1 _).cell (p := ⟨y, 1, none⟩) hyl).trans (cell_of_heap hy rfl)
  have HX : Hid (w.heap[x]? = some (.cells #[.int .i64 c, .int .i64 p] 111 (0, 0))) := hx
  have HET : Hid ((w.alloc (.cells #[.pointer none] 106)).cell? ⟨1, 0, none⟩ = some (.iface 188 (.agg #[.pointer (some ⟨3, 72, none⟩)]))) := het2
  clear hx hy het2
  go_enter Tryz.func23, Tryz.ntmps23
  go_wp2_with fail
  refine (is_wrap y ⟨x, 0, none⟩ b _ hbr2 hyc).mono ?_
  rintro e w' ⟨rfl, rfl⟩
  go_wp2_with fail
  refine (as_wrap y ⟨x, 0, none⟩ _ _ _ hyc HET.out htc htf).mono ?_
  intro e w2 has
  obtain ⟨rfl, hc2, hgr⟩ := as_world htc has
  have hx2 : w2.heap[x]? = some (.cells #[.int .i64 c, .int .i64 p] 111 (0, 0)) := by
    rw [hgr.block x (by simp; omega) (by simp; omega), Below.heap_alloc _ _ _ hxl]; exact HX.out
  have x0 : w2.cell? ⟨x, 0, none⟩ = some (.int .i64 c) := cell_of_heap hx2 rfl
  have x1 : w2.cell? ⟨x, 1, none⟩ = some (.int .i64 p) := cell_of_heap hx2 rfl
  have hB : Below w.heap.size w w2 := (hb1 _).grown hgr (by simp) (fun k hk => by simp at hk; omega)
  clear has hgr hx2 htc htf hbr2 hyc
  go_wp2
  go_quiet (fail)
  go_wp2
  go_ret2
  exact ⟨rfl, below_drewN hB _⟩

theorem verdict_any (B : Nat) (er : Value) (c p : Int) (w : World) (hG : Glob w) (h : Wrapped B w er c p) : Calls Tryz.prog 23 #[er] w fun e w' => VPost c p w w' e := by
  rcases h with ⟨b, rfl, _, h2⟩ | ⟨b, f, fl, rfl, _, h2, ⟨x, rfl, _, h3⟩⟩
  · exact verdict_flaw b c p w hG h2
  · exact verdict_wrap b x f c p w hG h2 h3

set_option maxHeartbeats 400000 in
theorem codeCheck_any (s : ByteArray) (w : World) (hG : Glob w) : Calls Tryz.prog 10 #[.string s] w fun e w' => VPost (Im.chk s).1 (Im.chk s).2 w w' e := by
  have HG : Hid (Glob w) := hG
  clear hG
  go_enter Tryz.func10, Tryz.ntmps10
  go_wp2_with fail
  refine (explain_any s _ HG.out.tab).mono ?_
  rintro e w1 (⟨hc, er, rfl, hw, hb⟩ | ⟨hc, rfl, hb⟩)
  · have hG1 := HG.out.below hb
    have HW : Hid (Wrapped w.heap.size w1 er (Im.chk s).1 (Im.chk s).2) := hw
    have HG1 : Hid (Glob w1) := hG1
    obtain ⟨t, b, rfl⟩ := wrapped_shape hw
    clear hc hw hG1
    go_wp2_with fail
    refine (verdict_any w.heap.size _ _ _ _ HG1.out HW.out).mono ?_
    rintro e w2 ⟨rfl, hb2⟩
    have hB := hb.trans (hb2.mono hb.size)
    clear hb hb2
    go_wp2
    go_ret2
    exact ⟨rfl, hB⟩
  · have HG1 : Hid (Glob w1) := HG.out.below hb
    have HC : Hid (Im.chk s = (0, 0)) := hc
    clear hc
    go_wp2_with fail
    refine (verdict_nil _ HG1.out).mono ?_
    rintro e w2 ⟨rfl, hb2⟩
    have hB := hb.trans (hb2.mono hb.size)
    clear hb hb2
    go_wp2
    go_ret2
    exact ⟨by rw [HC.out]; rfl, hB⟩
end Go.Proofs.YtbmaiioecnmopaaGreatDoor

/-
  THE LAWS Checks AND Explains: their walks. By the verifier of the loop 'triage'.
-/
namespace Go.Proofs.YtbmaiioecnmopaaGreatDoor
open Go.RowKit Go.Extern.Stop Go.Stop Go.Extern

theorem num_any (c : Int) (w : World) : Calls Tryz.prog 9 #[.int .i64 c] w fun e w' => e = .returned (.int .i64 c) ∧ w = w' := by
  go_enter Tryz.func9, Tryz.ntmps9
  go_wp2
  go_ret
  exact ⟨rfl, rfl⟩
end Go.Proofs.YtbmaiioecnmopaaGreatDoor

/-
  WHAT THE LISTED PACKAGE-LEVEL VARIABLES GIVE THE WALKS. By the verifier of the loop 'triage'.
-/
namespace Go.Proofs.YtbmaiioecnmopaaGreatDoor
open Go.ChangeShapes Go.WideShapes Go.ChangeAt Go.RowKit

theorem Tryz.own : ownKnob Tryz.prog.godebug = none := by kernel_rfl
theorem Tryz.gBroken : Tryz.prog.globalNamed "triage/triage.Broken" = some 0 := by kernel_rfl
theorem Tryz.gType : Tryz.prog.globalNamed "errors.errorType" = some 1 := by kernel_rfl
theorem Tryz.gTraits : Tryz.prog.globalNamed "triage/triage.traits" = some 2 := by kernel_rfl
theorem Tryz.tBroken : (Tryz.prog.globals[0]?).map (·.type) = some 72 := by kernel_rfl
theorem Tryz.tTraits : (Tryz.prog.globals[2]?).map (·.type) = some 163 := by kernel_rfl
theorem Tryz.rt : (Tryz.prog.cutTypes.find? (·.1 == "internal/reflectlite.rtype")).map (·.2) = some 188 := by kernel_rfl
theorem Tryz.oneRow : ((List.range 255).filter fun t => Tryz.prog.rowNamed t [101, 114, 114, 111, 114]) = [72] := by kernel_rfl
theorem Tryz.nTypes : Tryz.prog.types.size = 255 := by kernel_rfl
theorem Tryz.star : "*" ++ "errors.errorString" = "*errors.errorString" := by decide
theorem Tryz.rowES (u : TypeId) (h : Tryz.prog.typeName? 3 u = some "*errors.errorString") : u = 225 :=
  typeName_ptr_named (nm := "errors.errorString") (by rw [Tryz.star]; kernel_rfl) (by kernel_rfl) (by decide) u (by rw [Tryz.star]; exact h)
theorem Tryz.cellsES : Tryz.prog.cellsOf 244 = 1 := by kernel_rfl
theorem Tryz.cellsStr : Tryz.prog.cellsOf 9 = 1 := by kernel_rfl
theorem Tryz.cellsTrait : Tryz.prog.cellsOf 160 = 2 := by kernel_rfl
theorem Tryz.cellsInt : Tryz.prog.cellsOf 3 = 1 := by kernel_rfl

abbrev laid3 : List (String × DataW Unit) := [("errors.errorType", Rows.laid_errors_errorType), ("triage/triage.Broken", Rows.laid_triage_triage_Broken), ("triage/triage.traits", Rows.laid_triage_triage_traits)]

theorem handle_of_laid {W : World} (h : handlesMet Tryz.prog [("errors.errorType", Rows.laid_errors_errorType)] W) : W.cell? ⟨1, 0, none⟩ = some (.iface 188 (.agg #[.pointer (some ⟨3, 72, none⟩)])) := by
  obtain ⟨name, u, ty, e1, e2, e3, e4, e5⟩ := h _ (List.mem_singleton.2 rfl)
  have en : name = [101, 114, 114, 111, 114] := (Option.some.inj e1).symm
  subst en
  obtain rfl := Option.some.inj (Tryz.rt.symm.trans e2)
  have hm : ty ∈ (List.range 255).filter fun t => Tryz.prog.rowNamed t [101, 114, 114, 111, 114] := List.mem_filter.2 ⟨List.mem_range.2 (by rw [← Tryz.nTypes]; exact e3), e4⟩
  rw [Tryz.oneRow] at hm
  obtain rfl := List.mem_singleton.1 hm
  have hh : typeHandle Tryz.prog 72 = .pointer (some ⟨3, 72, none⟩) := by kernel_rfl
  rw [hh] at e5
  simpa using World.var?_cell Tryz.gType e5 0

/-- a table's row of two numbers. -/
theorem trait_cells {W : World} {m : Nat} {cs : List Value} {x : DataW Unit × List MemPlace} {a b : Int} {enc : TypeId × Value → Unit} {base : Nat} {spare : TypeId → Bool} {held : Bool}
    (h : DataW.trod enc Tryz.prog W base spare held m 160 cs = some x) (hx : x.1 = .agg [.lit (.int .i64 a), .lit (.int .i64 b)]) : cs[0]? = some (.int .i64 a) ∧ cs[1]? = some (.int .i64 b) := by
  obtain ⟨y0, y1, n, rfl, hl, h0, h1⟩ := trod_struct2 Tryz.underlying160 h
  obtain ⟨k0, e0, rfl, _⟩ := DataW.trod_int Tryz.underlying3 h0
  obtain ⟨k1, e1, rfl, _⟩ := DataW.trod_int Tryz.underlying3 h1
  simp at hx
  obtain ⟨rfl, rfl⟩ := hx
  rw [Tryz.cellsTrait] at hl
  rw [Tryz.cellsInt] at e0 e1
  obtain ⟨c0, c1, rfl⟩ : ∃ c0 c1, cs = [c0, c1] := by
    rcases cs with _ | ⟨c0, _ | ⟨c1, _ | ⟨c2, r⟩⟩⟩
    · simp at hl
    · simp at hl
    · exact ⟨c0, c1, rfl⟩
    · simp at hl
  have e0' : [c0] = [Value.int .i64 k0] := e0
  have e1' : [c1] = [Value.int .i64 k1] := e1
  exact ⟨by rw [List.getElem?_cons_zero, (List.cons.inj e0').1], by rw [List.getElem?_cons_succ, List.getElem?_cons_zero, (List.cons.inj e1').1]⟩

theorem tab_of {W : World} {m : Nat} {cs : List Value} {ps : List MemPlace} {enc : TypeId × Value → Unit} {base : Nat} {spare : TypeId → Bool} {held : Bool}
    (h : DataW.trod enc Tryz.prog W base spare held m 163 cs = some (Rows.laid_triage_triage_traits, ps)) (hc : ∀ i, W.cell? ⟨2, i, none⟩ = cs[i]?) : Tab W := by
  obtain ⟨xs, m1, rfl, hx, hlen, hn, hel⟩ := DataW.trod_array Tryz.underlying163 h
  simp only [Prod.mk.injEq] at hx
  have hx1 := hx.1
  have key : ∀ op a b, op < 18 → (xs.map (·.1))[op]? = some (.agg [.lit (.int .i64 a), .lit (.int .i64 b)]) → W.cell? ⟨2, op * 2, none⟩ = some (.int .i64 a) ∧ W.cell? ⟨2, op * 2 + 1, none⟩ = some (.int .i64 b) := by
    intro op a b hop hd
    have he := hel op hop
    rw [Tryz.cellsTrait] at he
    obtain ⟨x, hxo⟩ : ∃ x, xs[op]? = some x := ⟨xs[op], List.getElem?_eq_getElem (by omega)⟩
    rw [hxo] at he
    simp [List.getElem?_map, hxo] at hd
    obtain ⟨c0, c1⟩ := trait_cells he hd
    rw [hc, hc]
    simp [List.getElem?_drop] at c0 c1
    exact ⟨c0, c1⟩
  rw [Rows.laid_triage_triage_traits, DataW.agg.injEq] at hx1
  rw [← hx1] at key
  constructor
  · intro op hop
    rcases (show op = 0 ∨ op = 1 ∨ op = 2 ∨ op = 3 ∨ op = 4 ∨ op = 5 ∨ op = 6 ∨ op = 7 ∨ op = 8 ∨ op = 9 ∨ op = 10 ∨ op = 11 ∨ op = 12 ∨ op = 13 ∨ op = 14 ∨ op = 15 ∨ op = 16 ∨ op = 17 by omega) with h | h | h | h | h | h | h | h | h | h | h | h | h | h | h | h | h | h <;> subst h <;> exact (key _ _ _ (by omega) rfl).1
  · intro op hop
    rcases (show op = 0 ∨ op = 1 ∨ op = 2 ∨ op = 3 ∨ op = 4 ∨ op = 5 ∨ op = 6 ∨ op = 7 ∨ op = 8 ∨ op = 9 ∨ op = 10 ∨ op = 11 ∨ op = 12 ∨ op = 13 ∨ op = 14 ∨ op = 15 ∨ op = 16 ∨ op = 17 by omega) with h | h | h | h | h | h | h | h | h | h | h | h | h | h | h | h | h | h <;> subst h <;> exact (key _ _ _ (by omega) rfl).2

/-- WHAT THE CONDITION GIVES. -/
theorem glob_of_laid {W : World} (h : laidMetH Tryz.prog laid3 W) : Glob W := by
  have h' : laidMet Tryz.prog [("triage/triage.Broken", Rows.laid_triage_triage_Broken), ("triage/triage.traits", Rows.laid_triage_triage_traits)] W ∧ handlesMet Tryz.prog [("errors.errorType", Rows.laid_errors_errorType)] W := h
  obtain ⟨hL, hH⟩ := h'
  obtain ⟨a, s, hv, _, _, _⟩ := laid_sentinel hL Tryz.gBroken Tryz.tBroken Tryz.underlying72 Tryz.rowES Tryz.underlying225 Tryz.underlying244 rfl rfl Tryz.underlying9 Tryz.cellsES Tryz.cellsStr
  have hT := hL.tail
  obtain ⟨ps, ⟨g1, t1, cs1, f1, p1, q1, hg1, ht1, hv1, hd1, _, _⟩, _, _⟩ := hT
  obtain rfl := Option.some.inj (Tryz.gTraits.symm.trans hg1)
  obtain rfl := Option.some.inj (Tryz.tTraits.symm.trans ht1)
  refine ⟨tab_of hd1 (fun i => ?_), handle_of_laid hH, a, ?_⟩
  · have h := World.var?_cell hg1 hv1 i
    simpa using h
  · simpa using World.var?_cell Tryz.gBroken hv 0

/-- The door's own heap meets the condition. -/
theorem door_met (os : Os) (args : Array Value) : laidMetH Tryz.prog laid3 ((World.doorLaid Tryz.prog 400 os).forCall (fun _ _ => 0) ⟨#[], args, []⟩).memory :=
  laidMetH_of_parts3 (fuel := 8) (laidMet_of_run' 8 (by kernel_rfl) (by kernel_rfl)) (by kernel_rfl) (by kernel_rfl)
end Go.Proofs.YtbmaiioecnmopaaGreatDoor
