/-
  THE DOCUMENT's SIDE (package triageref): Check. By the verifier of the loop 'triage'.
-/
import Derived.Test.YthljaemhgkepoaaDoorRefD
import Derived.Test.YthljaemhgkepoaaDoorPureB
namespace Go.Proofs.YthljaemhgkepoaaDoor
open Go.RowKit

theorem ret_ints {a b c d : Int} (h : a = b) (h' : c = d) : Ending.returned (.tuple #[.int .i64 a, .int .i64 c]) = .returned (.tuple #[.int .i64 b, .int .i64 d]) := by rw [h, h']
theorem place_nn (o : Option Nat) (p : Nat) (h : o = some p) : place o = (p : Int) := by rw [h]; rfl

set_option maxHeartbeats 400000 in
theorem check_long (s : ByteArray) (w : World) (hs : 200 < s.size) :
    Calls Tryd.prog 8 #[.string s] w fun e w' => e = .returned (.tuple #[.int .i64 (Im.chk s).1, .int .i64 (Im.chk s).2]) ∧ Below w.heap.size w w' := by
  have HE : Hid (Im.chk s = (1, 0)) := by unfold Im.chk; rw [if_pos hs]; rfl
  go_enter Tryd.func8, Tryd.ntmps8
  go_wp2
  go_ret2
  exact ⟨ret_ints (by rw [HE.out]) (by rw [HE.out]), Below.refl _ _⟩

theorem funcs_all (s : ByteArray) (w : World) (hs : s.size ≤ 200) :
    Calls Tryd.prog 23 #[.string s] w fun e w' => ∃ v, e = .returned (.tuple #[v, .int .i64 (place (Im.hd s))]) ∧
      (Im.hd s = none → w'.ownsRow w.heap.size 68 2 v (Im.bt s 0) (fcells s (Im.bt s 0))) ∧ Below w.heap.size w w' := by
  by_cases h : s.size = 0 ∨ Im.bt s 0 < 1 ∨ 6 < Im.bt s 0
  · refine (funcs_zero s w hs h).mono ?_
    rintro e w' ⟨rfl, rfl⟩
    exact ⟨_, ret_two (by rw [Im.hd_zero s h]; rfl), (fun h' => by rw [Im.hd_zero s h] at h'; simp at h'), Below.refl _ _⟩
  · exact funcs_any s w hs h

set_option maxHeartbeats 400000 in
theorem check_head (s : ByteArray) (p : Nat) (w : World) (hs : s.size ≤ 200) (hp : Im.hd s = some p) :
    Calls Tryd.prog 8 #[.string s] w fun e w' => e = .returned (.tuple #[.int .i64 (Im.chk s).1, .int .i64 (Im.chk s).2]) ∧ Below w.heap.size w w' := by
  have HE : Hid (Im.chk s = (2, (p : Int))) := by unfold Im.chk; rw [if_neg (by omega), hp]; rfl
  have HP : Hid (place (Im.hd s) = (p : Int)) := place_nn _ p hp
  clear hp
  go_enter Tryd.func8, Tryd.ntmps8
  go_wp2_with fail
  refine (funcs_all s _ hs).mono ?_
  rintro e w' ⟨v, rfl, _, hb⟩
  rw [HP.out]
  go_wp2
  go_ret2
  exact ⟨ret_ints (by rw [HE.out]) (by rw [HE.out]), hb⟩

/-- what the list of functions reads as. -/
theorem fcells_at (s : ByteArray) : ∀ n f, f < n → (fcells s n)[f * 2]? = some (.int .i64 (Im.st s f : Nat)) ∧ (fcells s n)[f * 2 + 1]? = some (.int .i64 (Im.st s (f + 1) : Nat)) := by
  have hl : ∀ n, (fcells s n).length = n * 2 := by
    intro n; induction n with
    | zero => rfl
    | succ n ih => simp [fcells, ih]; omega
  intro n
  induction n with
  | zero => intro f h; omega
  | succ n ih =>
    intro f h
    by_cases he : f = n
    · subst he
      simp only [fcells]
      rw [List.getElem?_append_right (by rw [hl]; omega), List.getElem?_append_right (by rw [hl]; omega), hl]
      simp
    · obtain ⟨h1, h2⟩ := ih f (by omega)
      simp only [fcells]
      rw [List.getElem?_append_left (by rw [hl]; omega), List.getElem?_append_left (by rw [hl]; omega)]
      exact ⟨h1, h2⟩

theorem addr_add0 (g k : Nat) : (⟨g, 0, none⟩ : Addr).add k = ⟨g, k, none⟩ := by
  unfold Addr.add; split <;> simp_all
-- Starts of a function of a good head.
theorem starts_fn (s : ByteArray) (f : Nat) (w : World) (hs : s.size ≤ 200) (h1 : Im.st s f < Im.st s (f + 1)) (h2 : Im.st s (f + 1) ≤ s.size) :
    Calls Tryd.prog 24 #[.string s, .agg #[.int .i64 (Im.st s f : Nat), .int .i64 (Im.st s (f + 1) : Nat)]] w fun e w' =>
      ∃ v, e = .returned (.tuple #[v, .int .i64 (place (Im.gOp s f))]) ∧
        (Im.gOp s f = none → ∃ g cap, v = .slice (some ⟨g, 0, none⟩) (Im.fn s f).1.length cap ∧ 0 < (Im.fn s f).1.length ∧ g < w'.heap.size ∧ ∀ k, k < (Im.fn s f).1.length → w'.cell? ⟨g, k, none⟩ = some (.int .i64 ((Im.fn s f).1[k]?.getD 0 : Nat))) ∧ Below w.heap.size w w' := by
  refine (starts_any s (Im.st s f) (Im.st s (f + 1)) w hs (by omega) h2).mono ?_
  rintro e w' ⟨v, rfl, hown, hb⟩
  have hb' : Below w.heap.size w w' := ((Below.refl w.heap.size w).alloc (Nat.le_refl _) _).trans (hb.mono (by omega))
  refine ⟨v, rfl, ?_, hb'⟩
  intro hn
  have hpos : 0 < (Im.fn s f).1.length := Im.run_ne s _ _ h1 hn
  have hcells := fun g (hg : v.ownBlock = some g) => hown.cells hg
  have hcells2 : ∀ g, v.ownBlock = some g → ∀ k, k < (Im.fn s f).1.length → w'.cell? ⟨g, k, none⟩ = some (.int .i64 ((Im.fn s f).1[k]?.getD 0 : Nat)) := by
    intro g hg k hk
    have h := hcells g hg k (.int .i64 ((Im.fn s f).1[k]?.getD 0 : Nat)) (by
      show (ints (Im.fn s f).1)[k]? = _
      simp [ints, List.getElem?_eq_getElem hk])
    rw [addr_add0] at h
    exact h
  obtain ⟨_, ⟨_, h0⟩ | ⟨g, cap, cur, rfl, _, hgg, _⟩⟩ := hown
  · exact absurd h0 (by show ¬ (Im.fn s f).1.length = 0; omega)
  · exact ⟨g, cap, rfl, hpos, (Array.getElem?_eq_some_iff.1 hgg).1, hcells2 g rfl⟩

theorem addr_add (g k : Nat) : (⟨g, 0, none⟩ : Addr).add k = ⟨g, k, none⟩ := by
  unfold Addr.add; split <;> simp_all

set_option maxHeartbeats 1600000 in
set_option maxRecDepth 100000 in
theorem check_rest (s : ByteArray) (w : World) (hs : s.size ≤ 200) (hp : Im.hd s = none) :
    Calls Tryd.prog 8 #[.string s] w fun e w' => e = .returned (.tuple #[.int .i64 (Im.chk s).1, .int .i64 (Im.chk s).2]) ∧ Below w.heap.size w w' := by
  have HP : Hid (Im.hd s = none) := hp
  have HPl : Hid (place (Im.hd s) = -1) := by show place (Im.hd s) = -1; rw [hp]; rfl
  obtain ⟨hn1, hn6, _, _, _⟩ := Im.hd_none s hp
  have HST : Hid (∀ f, f < Im.bt s 0 → Im.st s f < Im.st s (f + 1) ∧ Im.st s (f + 1) ≤ s.size) := Im.st_in s hp
  have HCHK : Hid (Im.chk s = match Im.firstF (Im.gOp s) (Im.bt s 0) 0 with | some p => (3, (p : Int)) | none => match Im.firstF (Im.gJump s (Im.bt s 0)) (Im.bt s 0) 0 with | some p => (4, (p : Int)) | none => match Im.firstF (Im.gFall s) (Im.bt s 0) 0 with | some p => (5, (p : Int)) | none => (0, 0)) := by
    show Im.chk s = _; unfold Im.chk; rw [if_neg (by omega), hp]; rfl
  have HFC := fcells_at s (Im.bt s 0)
  clear hp
  go_enter Tryd.func8, Tryd.ntmps8
  go_wp2_with fail
  refine (funcs_all s _ hs).mono ?_
  rintro e w1 ⟨v, rfl, hown0, hb1⟩
  have hown := hown0 HP.out
  clear hown0
  rw [HPl.out]
  generalize Im.bt s 0 = n at *
  obtain ⟨hl, ⟨_, h0⟩ | ⟨g, cap, cur, rfl, hg0, hgg, hncap, hcap, hcur, htake⟩⟩ := hown
  · omega
  have HFC2 : Hid (∀ f, f < n → w1.cell? ⟨g, f * 2, none⟩ = some (.int .i64 (Im.st s f : Nat)) ∧ w1.cell? ⟨g, f * 2 + 1, none⟩ = some (.int .i64 (Im.st s (f + 1) : Nat))) := by
    intro f hf
    have ho : w1.ownsRow w.heap.size 68 2 (.slice (some ⟨g, 0, none⟩) n cap) n (fcells s n) := ⟨hl, Or.inr ⟨g, cap, cur, rfl, hg0, hgg, hncap, hcap, hcur, htake⟩⟩
    have hc := ho.cells (g := g) rfl
    have h1 := hc _ _ (HFC f hf).1
    have h2 := hc _ _ (HFC f hf).2
    rw [addr_add] at h1 h2
    exact ⟨h1, h2⟩
  have hgs : g < w1.heap.size := (Array.getElem?_eq_some_iff.1 hgg).1
  unfold maxLen at hcap
  clear hl hgg hcur htake HFC cur HPl HP
  go_wp2
  go_loopw [6] (fun i wr => ∃ (f : Nat), i = .int .i64 f ∧ f ≤ n ∧ Hid (Im.firstF (Im.gOp s) n 0 = Im.firstF (Im.gOp s) (n - f) f) ∧ Below w1.heap.size w1 wr)
    (fun i _ => n - (intOf i).toNat)
  case atStart => exact ⟨0, rfl, by omega, rfl, Below.refl _ _⟩
  case round =>
    obtain ⟨f, rfl, hf, HR, hbl⟩ := hrel
    by_cases hlt : f < n
    · obtain ⟨HS1, HS2⟩ := HST.out f hlt
      have hc1 : wr.cell? ⟨g, f * 2, none⟩ = some (.int .i64 (Im.st s f : Nat)) := (hbl.cell (p := ⟨g, f * 2, none⟩) hgs).trans (HFC2.out f hlt).1
      have hc2 : wr.cell? ⟨g, f * 2 + 1, none⟩ = some (.int .i64 (Im.st s (f + 1) : Nat)) := (hbl.cell (p := ⟨g, f * 2 + 1, none⟩) hgs).trans (HFC2.out f hlt).2
      go_wp2_with fail
      refine (starts_fn s f _ hs HS1 HS2).mono ?_
      rintro e w2 ⟨v, rfl, _, hb2⟩
      have hbl2 := hbl.trans (hb2.mono hbl.size)
      cases hg : Im.gOp s f with
      | some p =>
        have HE : Hid (Im.chk s = (3, (p : Int))) := by
          show Im.chk s = _
          rw [HCHK.out, HR.out, Im.firstF_hit _ n f p hlt hg]
        have hpl : place (some p) = (p : Int) := rfl
        rw [hpl]
        clear hg hpl HCHK HR HST
        go_wp2
        go_ret2
        exact ⟨ret_ints (by rw [HE.out]) (by rw [HE.out]), hb1.trans (hbl2.mono hb1.size)⟩
      | none =>
        have HE : Hid (Im.firstF (Im.gOp s) n 0 = Im.firstF (Im.gOp s) (n - (f + 1)) (f + 1)) := by
          show Im.firstF (Im.gOp s) n 0 = _
          rw [HR.out, Im.firstF_miss _ n f hlt hg]
        have hpl : place none = (-1 : Int) := rfl
        rw [hpl]
        clear hg hpl HCHK HR HST
        go_wp2
        go_roundw
        case rel => exact ⟨f + 1, by go_num, by omega, HE, hbl2⟩
        case measure => simp [intOf]; omega
    · have HOPS : Hid (Im.firstF (Im.gOp s) n 0 = none) := by
        show Im.firstF (Im.gOp s) n 0 = none
        rw [HR.out, Im.firstF_done _ n f (by omega)]
      have HALL : Hid (∀ k, k < n → Im.gOp s k = none) := fun k hk => Im.firstF_none _ n 0 HOPS.out k (by omega) (by omega)
      clear HR
      go_wp2
      go_loopw [9] (fun i wr => ∃ (f : Nat), i = .int .i64 f ∧ f ≤ n ∧ Hid (Im.firstF (Im.gJump s n) n 0 = Im.firstF (Im.gJump s n) (n - f) f) ∧ Below w1.heap.size w1 wr)
        (fun i _ => n - (intOf i).toNat)
      case atStart => exact ⟨0, rfl, by omega, rfl, hbl⟩
      case round =>
        clear hbl
        obtain ⟨f, rfl, hf, HR, hbl⟩ := hrel
        by_cases hlt : f < n
        · obtain ⟨HS1, HS2⟩ := HST.out f hlt
          have hc1 : wr.cell? ⟨g, f * 2, none⟩ = some (.int .i64 (Im.st s f : Nat)) := (hbl.cell (p := ⟨g, f * 2, none⟩) hgs).trans (HFC2.out f hlt).1
          have hc2 : wr.cell? ⟨g, f * 2 + 1, none⟩ = some (.int .i64 (Im.st s (f + 1) : Nat)) := (hbl.cell (p := ⟨g, f * 2 + 1, none⟩) hgs).trans (HFC2.out f hlt).2
          go_wp2_with fail
          refine (starts_fn s f _ hs HS1 HS2).mono ?_
          rintro e w2 ⟨v, rfl, hv, hb2⟩
          obtain ⟨g2, cap2, rfl, hpos, hg2, hcells⟩ := hv (HALL.out f hlt)
          have hbl2 := hbl.trans (hb2.mono hbl.size)
          have hc1' : w2.cell? ⟨g, f * 2, none⟩ = some (.int .i64 (Im.st s f : Nat)) := (hbl2.cell (p := ⟨g, f * 2, none⟩) hgs).trans (HFC2.out f hlt).1
          have hc2' : w2.cell? ⟨g, f * 2 + 1, none⟩ = some (.int .i64 (Im.st s (f + 1) : Nat)) := (hbl2.cell (p := ⟨g, f * 2 + 1, none⟩) hgs).trans (HFC2.out f hlt).2
          clear hc1 hc2 hv
          have HCC : Hid (∀ k, k < (Im.fn s f).1.length → w2.cell? ⟨g2, k, none⟩ = some (.int .i64 ((Im.fn s f).1[k]?.getD 0 : Nat))) := hcells
          have HMM : Hid (∀ c, c ∈ (Im.fn s f).1 → c < s.size ∧ c + Im.sz (Im.bt s c) ≤ s.size) := by
            intro c hc
            have := Im.fn_mem s f c hc
            omega
          have hfl := Im.fn_len s f
          have HJ : Hid (Im.gJump s n f = Im.jmp s (Im.st s f) n (Im.fn s f).1 (Im.fn s f).1) := rfl
          clear hcells
          generalize (Im.fn s f).1 = L at *
          have HST1 : Hid (Im.st s f < Im.st s (f + 1)) := HS1
          have HST2 : Hid (Im.st s (f + 1) ≤ s.size) := HS2
          have hlen : L.length ≤ 1000 := by omega
          clear hfl HS1 HS2
          go_wp2_with fail
          refine (jump_any s (Im.st s f) (Im.st s (f + 1)) n g2 cap2 L _ hs (by have := HST1.out; have := HST2.out; omega) (by omega) hlen HMM.out hg2 HCC.out).mono ?_
          rintro e w3 ⟨rfl, hb3⟩
          rw [← HJ.out]
          have hbl3 := hbl2.trans (hb3.mono hbl2.size)
          clear HJ HCC HMM hc1' hc2'
          cases hg : Im.gJump s n f with
          | some p =>
            have HE : Hid (Im.chk s = (4, (p : Int))) := by
              show Im.chk s = _
              rw [HCHK.out, HOPS.out, HR.out, Im.firstF_hit _ n f p hlt hg]
            have hpl : place (some p) = (p : Int) := rfl
            rw [hpl]
            clear hg hpl HCHK HR HST
            go_wp2
            go_ret2
            exact ⟨ret_ints (by rw [HE.out]) (by rw [HE.out]), hb1.trans (hbl3.mono hb1.size)⟩
          | none =>
            have HE : Hid (Im.firstF (Im.gJump s n) n 0 = Im.firstF (Im.gJump s n) (n - (f + 1)) (f + 1)) := by
              show Im.firstF (Im.gJump s n) n 0 = _
              rw [HR.out, Im.firstF_miss _ n f hlt hg]
            have hpl : place none = (-1 : Int) := rfl
            rw [hpl]
            clear hg hpl HCHK HR HST
            go_wp2
            go_roundw
            case rel => exact ⟨f + 1, by go_num, by omega, HE, hbl3⟩
            case measure => simp [intOf]; omega
        · have HJS : Hid (Im.firstF (Im.gJump s n) n 0 = none) := by
            show Im.firstF (Im.gJump s n) n 0 = none
            rw [HR.out, Im.firstF_done _ n f (by omega)]
          clear HR
          go_wp2
          go_loopw [13] (fun i wr => ∃ (f : Nat), i = .int .i64 f ∧ f ≤ n ∧ Hid (Im.firstF (Im.gFall s) n 0 = Im.firstF (Im.gFall s) (n - f) f) ∧ Below w1.heap.size w1 wr)
            (fun i _ => n - (intOf i).toNat)
          case atStart => exact ⟨0, rfl, by omega, rfl, hbl⟩
          case round =>
            clear hbl
            obtain ⟨f, rfl, hf, HR, hbl⟩ := hrel
            by_cases hlt : f < n
            · obtain ⟨HS1, HS2⟩ := HST.out f hlt
              have hc1 : wr.cell? ⟨g, f * 2, none⟩ = some (.int .i64 (Im.st s f : Nat)) := (hbl.cell (p := ⟨g, f * 2, none⟩) hgs).trans (HFC2.out f hlt).1
              have hc2 : wr.cell? ⟨g, f * 2 + 1, none⟩ = some (.int .i64 (Im.st s (f + 1) : Nat)) := (hbl.cell (p := ⟨g, f * 2 + 1, none⟩) hgs).trans (HFC2.out f hlt).2
              go_wp2_with fail
              refine (starts_fn s f _ hs HS1 HS2).mono ?_
              rintro e w2 ⟨v, rfl, hv, hb2⟩
              obtain ⟨g2, cap2, rfl, hpos, hg2, hcells⟩ := hv (HALL.out f hlt)
              have hbl2 := hbl.trans (hb2.mono hbl.size)
              clear hc1 hc2 hv
              have hcl := hcells ((Im.fn s f).1.length - 1) (by omega)
              have hmem := Im.fn_mem s f _ (Im.lastI_mem (Im.fn s f).1 hpos)
              have hlen := Im.fn_len s f
              have HF : Hid (Im.gFall s f = if Im.bt s (Im.lastI (Im.fn s f).1) = 0 ∨ Im.bt s (Im.lastI (Im.fn s f).1) = 10 ∨ Im.bt s (Im.lastI (Im.fn s f).1) = 17 then none else some (Im.lastI (Im.fn s f).1)) := rfl
              have hla : (Im.fn s f).1[(Im.fn s f).1.length - 1]?.getD 0 = Im.lastI (Im.fn s f).1 := rfl
              rw [hla] at hcl
              clear hcells hla
              generalize Im.lastI (Im.fn s f).1 = c at *
              generalize (Im.fn s f).1.length = m at *
              obtain ⟨m, rfl⟩ : ∃ k, m = k + 1 := ⟨m - 1, by omega⟩
              rw [Nat.add_sub_cancel] at hcl
              have hm : m ≤ 1000 := by omega
              have hcs : c < s.size := by omega
              clear hmem hlen HS1 HS2
              have hop := Im.bt_eq s c hcs
              generalize Im.bt s c = op at *
              have hb3 := hb1.trans (hbl2.mono hb1.size)
              by_cases hgood : op = 0 ∨ op = 10 ∨ op = 17
              · have HE : Hid (Im.firstF (Im.gFall s) n 0 = Im.firstF (Im.gFall s) (n - (f + 1)) (f + 1)) := by
                  show Im.firstF (Im.gFall s) n 0 = _
                  rw [HR.out, Im.firstF_miss _ n f hlt (by rw [HF.out, if_pos hgood])]
                clear HCHK HR HST HALL HOPS HJS HF
                have hcase : ((op : Int) != 0) = false ∨ (((op : Int) != 0) = true ∧ ((op : Int) != 10) = false) ∨ (((op : Int) != 0) = true ∧ ((op : Int) != 10) = true ∧ ((op : Int) != 17) = false) := by
                  rcases hgood with h | h | h <;> simp [h]
                clear hgood
                rcases hcase with e0 | ⟨e0, e1⟩ | ⟨e0, e1, e2⟩
                all_goals
                  go_wp2
                  go_roundw
                  case rel => exact ⟨f + 1, by go_num, by omega, HE, hbl2⟩
                  case measure => simp [intOf]; omega
              · have HE : Hid (Im.chk s = (5, (c : Int))) := by
                  show Im.chk s = _
                  rw [HCHK.out, HOPS.out, HJS.out, HR.out, Im.firstF_hit _ n f c hlt (by rw [HF.out, if_neg hgood])]
                have e0 : ((op : Int) != 0) = true := by rw [bne_iff_ne]; omega
                have e1 : ((op : Int) != 10) = true := by rw [bne_iff_ne]; omega
                have e2 : ((op : Int) != 17) = true := by rw [bne_iff_ne]; omega
                clear HCHK HR HST HALL HOPS HJS HF hgood
                go_wp2
                go_ret2
                exact ⟨ret_ints (by rw [HE.out]) (by rw [HE.out]), hb3⟩
            · have HFS : Hid (Im.chk s = (0, 0)) := by
                show Im.chk s = (0, 0)
                rw [HCHK.out, HOPS.out, HJS.out, HR.out, Im.firstF_done _ n f (by omega)]
              clear HCHK HOPS HJS HR HST HALL
              go_wp2
              go_ret2
              exact ⟨ret_ints (by rw [HFS.out]) (by rw [HFS.out]), hb1.trans (hbl.mono hb1.size)⟩

/-- THE DOCUMENT's Check: what it answers; nothing old is changed. -/
theorem check_any (s : ByteArray) (w : World) :
    Calls Tryd.prog 8 #[.string s] w fun e w' => e = .returned (.tuple #[.int .i64 (Im.chk s).1, .int .i64 (Im.chk s).2]) ∧ Below w.heap.size w w' := by
  by_cases h : 200 < s.size
  · exact check_long s w h
  · cases hp : Im.hd s with
    | some p => exact check_head s p w (by omega) hp
    | none => exact check_rest s w (by omega) hp
end Go.Proofs.YthljaemhgkepoaaDoor
