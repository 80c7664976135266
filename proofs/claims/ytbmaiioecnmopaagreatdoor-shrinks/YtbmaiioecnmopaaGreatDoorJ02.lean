/-
  RefE, CodeA, CodeB, CodeC, CodeD: THESE TEXTS, JOINED. By the verifier of the loop 'triage'.
-/
import Derived.Test.YtbmaiioecnmopaaGreatDoorJ01
import Derived.BigRegion
/-
  THE DOCUMENT's SIDE (package triageref): Check. By the verifier of the loop 'triage'.
-/
namespace Go.Proofs.YtbmaiioecnmopaaGreatDoor
open Go.RowKit

theorem ret_ints {a b c d : Int} (h : a = b) (h' : c = d) : Ending.returned (.tuple #[.int .i64 a, .int .i64 c]) = .returned (.tuple #[.int .i64 b, .int .i64 d]) := by rw [h, h']
theorem place_nn (o : Option Nat) (p : Nat) (h : o = some p) : place o = (p : Int) := by rw [h]; rfl

set_option maxHeartbeats 400000 in
theorem check_long (s : ByteArray) (w : World) (hs : 200 < s.size) :
    Calls Tryz.prog 55 #[.string s] w fun e w' => e = .returned (.tuple #[.int .i64 (Im.chk s).1, .int .i64 (Im.chk s).2]) ∧ Below w.heap.size w w' := by
  have HE : Hid (Im.chk s = (1, 0)) := by unfold Im.chk; rw [if_pos hs]; rfl
  go_enter Tryz.func55, Tryz.ntmps55
  go_wp2
  go_ret2
  exact ⟨ret_ints (by rw [HE.out]) (by rw [HE.out]), Below.refl _ _⟩

theorem funcs_all (s : ByteArray) (w : World) (hs : s.size ≤ 200) :
    Calls Tryz.prog 56 #[.string s] w fun e w' => ∃ v, e = .returned (.tuple #[v, .int .i64 (place (Im.hd s))]) ∧
      (Im.hd s = none → w'.ownsRow w.heap.size 135 2 v (Im.bt s 0) (fcells s (Im.bt s 0))) ∧ Below w.heap.size w w' := by
  by_cases h : s.size = 0 ∨ Im.bt s 0 < 1 ∨ 6 < Im.bt s 0
  · refine (funcs_zero s w hs h).mono ?_
    rintro e w' ⟨rfl, rfl⟩
    exact ⟨_, ret_two (by rw [Im.hd_zero s h]; rfl), (fun h' => by rw [Im.hd_zero s h] at h'; simp at h'), Below.refl _ _⟩
  · exact funcs_any s w hs h

set_option maxHeartbeats 400000 in
theorem check_head (s : ByteArray) (p : Nat) (w : World) (hs : s.size ≤ 200) (hp : Im.hd s = some p) :
    Calls Tryz.prog 55 #[.string s] w fun e w' => e = .returned (.tuple #[.int .i64 (Im.chk s).1, .int .i64 (Im.chk s).2]) ∧ Below w.heap.size w w' := by
  have HE : Hid (Im.chk s = (2, (p : Int))) := by unfold Im.chk; rw [if_neg (by omega), hp]; rfl
  have HP : Hid (place (Im.hd s) = (p : Int)) := place_nn _ p hp
  clear hp
  go_enter Tryz.func55, Tryz.ntmps55
  go_wp2_with fail
  refine (funcs_all s _ hs).mono ?_
  rintro e w' ⟨v, rfl, _, hb⟩
  rw [HP.out]
  go_wp2
  go_ret2
  exact ⟨ret_ints (by rw [HE.out]) (by rw [HE.out]), hb⟩

/-- what the list of functions reads as. -/
theorem fcells_at (s : ByteArray) : ∀ n f, f < n → (fcells s n)[f * 2]? = some (.int .i64 (Im.st s f : Nat)) ∧ (fcells s n)[f * 2 + 1]? = some (.int .i64 (Im.st s (f + 1) : Nat)) := by
  have hl : ∀ n, (fcells s n).length = n * 2 := by
    intro n; induction n with
    | zero => rfl
    | succ n ih => simp [fcells, ih]; omega
  intro n
  induction n with
  | zero => intro f h; omega
  | succ n ih =>
    intro f h
    by_cases he : f = n
    · subst he
      simp only [fcells]
      rw [List.getElem?_append_right (by rw [hl]; omega), List.getElem?_append_right (by rw [hl]; omega), hl]
      simp
    · obtain ⟨h1, h2⟩ := ih f (by omega)
      simp only [fcells]
      rw [List.getElem?_append_left (by rw [hl]; omega), List.getElem?_append_left (by rw [hl]; omega)]
      exact ⟨h1, h2⟩

theorem addr_add0 (g k : Nat) : (⟨g, 0, none⟩ : Addr).add k = ⟨g, k, none⟩ := by
  unfold Addr.add; split <;> simp_all
-- Starts of a function of a good head.
theorem starts_fn (s : ByteArray) (f : Nat) (w : World) (hs : s.size ≤ 200) (h1 : Im.st s f < Im.st s (f + 1)) (h2 : Im.st s (f + 1) ≤ s.size) :
    Calls Tryz.prog 85 #[.string s, .agg #[.int .i64 (Im.st s f : Nat), .int .i64 (Im.st s (f + 1) : Nat)]] w fun e w' =>
      ∃ v, e = .returned (.tuple #[v, .int .i64 (place (Im.gOp s f))]) ∧
        (Im.gOp s f = none → ∃ g cap, v = .slice (some ⟨g, 0, none⟩) (Im.fn s f).1.length cap ∧ 0 < (Im.fn s f).1.length ∧ g < w'.heap.size ∧ ∀ k, k < (Im.fn s f).1.length → w'.cell? ⟨g, k, none⟩ = some (.int .i64 ((Im.fn s f).1[k]?.getD 0 : Nat))) ∧ Below w.heap.size w w' := by
  refine (starts_any s (Im.st s f) (Im.st s (f + 1)) w hs (by omega) h2).mono ?_
  rintro e w' ⟨v, rfl, hown, hb⟩
  have hb' : Below w.heap.size w w' := ((Below.refl w.heap.size w).alloc (Nat.le_refl _) _).trans (hb.mono (by omega))
  refine ⟨v, rfl, ?_, hb'⟩
  intro hn
  have hpos : 0 < (Im.fn s f).1.length := Im.run_ne s _ _ h1 hn
  have hcells := fun g (hg : v.ownBlock = some g) => hown.cells hg
  have hcells2 : ∀ g, v.ownBlock = some g → ∀ k, k < (Im.fn s f).1.length → w'.cell? ⟨g, k, none⟩ = some (.int .i64 ((Im.fn s f).1[k]?.getD 0 : Nat)) := by
    intro g hg k hk
    have h := hcells g hg k (.int .i64 ((Im.fn s f).1[k]?.getD 0 : Nat)) (by
      show (ints (Im.fn s f).1)[k]? = _
      simp [ints, List.getElem?_eq_getElem hk])
    rw [addr_add0] at h
    exact h
  obtain ⟨_, ⟨_, h0⟩ | ⟨g, cap, cur, rfl, _, hgg, _⟩⟩ := hown
  · exact absurd h0 (by show ¬ (Im.fn s f).1.length = 0; omega)
  · exact ⟨g, cap, rfl, hpos, (Array.getElem?_eq_some_iff.1 hgg).1, hcells2 g rfl⟩

theorem addr_add (g k : Nat) : (⟨g, 0, none⟩ : Addr).add k = ⟨g, k, none⟩ := by
  unfold Addr.add; split <;> simp_all

set_option maxHeartbeats 1600000 in
set_option maxRecDepth 100000 in
theorem check_rest (s : ByteArray) (w : World) (hs : s.size ≤ 200) (hp : Im.hd s = none) :
    Calls Tryz.prog 55 #[.string s] w fun e w' => e = .returned (.tuple #[.int .i64 (Im.chk s).1, .int .i64 (Im.chk s).2]) ∧ Below w.heap.size w w' := by
  have HP : Hid (Im.hd s = none) := hp
  have HPl : Hid (place (Im.hd s) = -1) := by show place (Im.hd s) = -1; rw [hp]; rfl
  obtain ⟨hn1, hn6, _, _, _⟩ := Im.hd_none s hp
  have HST : Hid (∀ f, f < Im.bt s 0 → Im.st s f < Im.st s (f + 1) ∧ Im.st s (f + 1) ≤ s.size) := Im.st_in s hp
  have HCHK : Hid (Im.chk s = match Im.firstF (Im.gOp s) (Im.bt s 0) 0 with | some p => (3, (p : Int)) | none => match Im.firstF (Im.gJump s (Im.bt s 0)) (Im.bt s 0) 0 with | some p => (4, (p : Int)) | none => match Im.firstF (Im.gFall s) (Im.bt s 0) 0 with | some p => (5, (p : Int)) | none => (0, 0)) := by
    show Im.chk s = _; unfold Im.chk; rw [if_neg (by omega), hp]; rfl
  have HFC := fcells_at s (Im.bt s 0)
  clear hp
  go_enter Tryz.func55, Tryz.ntmps55
  go_wp2_with fail
  refine (funcs_all s _ hs).mono ?_
  rintro e w1 ⟨v, rfl, hown0, hb1⟩
  have hown := hown0 HP.out
  clear hown0
  rw [HPl.out]
  generalize Im.bt s 0 = n at *
  obtain ⟨hl, ⟨_, h0⟩ | ⟨g, cap, cur, rfl, hg0, hgg, hncap, hcap, hcur, htake⟩⟩ := hown
  · omega
  have HFC2 : Hid (∀ f, f < n → w1.cell? ⟨g, f * 2, none⟩ = some (.int .i64 (Im.st s f : Nat)) ∧ w1.cell? ⟨g, f * 2 + 1, none⟩ = some (.int .i64 (Im.st s (f + 1) : Nat))) := by
    intro f hf
    have ho : w1.ownsRow w.heap.size 135 2 (.slice (some ⟨g, 0, none⟩) n cap) n (fcells s n) := ⟨hl, Or.inr ⟨g, cap, cur, rfl, hg0, hgg, hncap, hcap, hcur, htake⟩⟩
    have hc := ho.cells (g := g) rfl
    have h1 := hc _ _ (HFC f hf).1
    have h2 := hc _ _ (HFC f hf).2
    rw [addr_add] at h1 h2
    exact ⟨h1, h2⟩
  have hgs : g < w1.heap.size := (Array.getElem?_eq_some_iff.1 hgg).1
  unfold maxLen at hcap
  clear hl hgg hcur htake HFC cur HPl HP
  go_wp2
  go_loopw [6] (fun i wr => ∃ (f : Nat), i = .int .i64 f ∧ f ≤ n ∧ Hid (Im.firstF (Im.gOp s) n 0 = Im.firstF (Im.gOp s) (n - f) f) ∧ Below w1.heap.size w1 wr)
    (fun i _ => n - (intOf i).toNat)
  case atStart => exact ⟨0, rfl, by omega, rfl, Below.refl _ _⟩
  case round =>
    obtain ⟨f, rfl, hf, HR, hbl⟩ := hrel
    by_cases hlt : f < n
    · obtain ⟨HS1, HS2⟩ := HST.out f hlt
      have hc1 : wr.cell? ⟨g, f * 2, none⟩ = some (.int .i64 (Im.st s f : Nat)) := (hbl.cell (p := ⟨g, f * 2, none⟩) hgs).trans (HFC2.out f hlt).1
      have hc2 : wr.cell? ⟨g, f * 2 + 1, none⟩ = some (.int .i64 (Im.st s (f + 1) : Nat)) := (hbl.cell (p := ⟨g, f * 2 + 1, none⟩) hgs).trans (HFC2.out f hlt).2
      go_wp2_with fail
      refine (starts_fn s f _ hs HS1 HS2).mono ?_
      rintro e w2 ⟨v, rfl, _, hb2⟩
      have hbl2 := hbl.trans (hb2.mono hbl.size)
      cases hg : Im.gOp s f with
      | some p =>
        have HE : Hid (Im.chk s = (3, (p : Int))) := by
          show Im.chk s = _
          rw [HCHK.out, HR.out, Im.firstF_hit _ n f p hlt hg]
        have hpl : place (some p) = (p : Int) := rfl
        rw [hpl]
        clear hg hpl HCHK HR HST
        go_wp2
        go_ret2
        exact ⟨ret_ints (by rw [HE.out]) (by rw [HE.out]), hb1.trans (hbl2.mono hb1.size)⟩
      | none =>
        have HE : Hid (Im.firstF (Im.gOp s) n 0 = Im.firstF (Im.gOp s) (n - (f + 1)) (f + 1)) := by
          show Im.firstF (Im.gOp s) n 0 = _
          rw [HR.out, Im.firstF_miss _ n f hlt hg]
        have hpl : place none = (-1 : Int) := rfl
        rw [hpl]
        clear hg hpl HCHK HR HST
        go_wp2
        go_roundw
        case rel => exact ⟨f + 1, by go_num, by omega, HE, hbl2⟩
        case measure => simp [intOf]; omega
    · have HOPS : Hid (Im.firstF (Im.gOp s) n 0 = none) := by
        show Im.firstF (Im.gOp s) n 0 = none
        rw [HR.out, Im.firstF_done _ n f (by omega)]
      have HALL : Hid (∀ k, k < n → Im.gOp s k = none) := fun k hk => Im.firstF_none _ n 0 HOPS.out k (by omega) (by omega)
      clear HR
      go_wp2
      go_loopw [9] (fun i wr => ∃ (f : Nat), i = .int .i64 f ∧ f ≤ n ∧ Hid (Im.firstF (Im.gJump s n) n 0 = Im.firstF (Im.gJump s n) (n - f) f) ∧ Below w1.heap.size w1 wr)
        (fun i _ => n - (intOf i).toNat)
      case atStart => exact ⟨0, rfl, by omega, rfl, hbl⟩
      case round =>
        clear hbl
        obtain ⟨f, rfl, hf, HR, hbl⟩ := hrel
        by_cases hlt : f < n
        · obtain ⟨HS1, HS2⟩ := HST.out f hlt
          have hc1 : wr.cell? ⟨g, f * 2, none⟩ = some (.int .i64 (Im.st s f : Nat)) := (hbl.cell (p := ⟨g, f * 2, none⟩) hgs).trans (HFC2.out f hlt).1
          have hc2 : wr.cell? ⟨g, f * 2 + 1, none⟩ = some (.int .i64 (Im.st s (f + 1) : Nat)) := (hbl.cell (p := ⟨g, f * 2 + 1, none⟩) hgs).trans (HFC2.out f hlt).2
          go_wp2_with fail
          refine (starts_fn s f _ hs HS1 HS2).mono ?_
          rintro e w2 ⟨v, rfl, hv, hb2⟩
          obtain ⟨g2, cap2, rfl, hpos, hg2, hcells⟩ := hv (HALL.out f hlt)
          have hbl2 := hbl.trans (hb2.mono hbl.size)
          have hc1' : w2.cell? ⟨g, f * 2, none⟩ = some (.int .i64 (Im.st s f : Nat)) := (hbl2.cell (p := ⟨g, f * 2, none⟩) hgs).trans (HFC2.out f hlt).1
          have hc2' : w2.cell? ⟨g, f * 2 + 1, none⟩ = some (.int .i64 (Im.st s (f + 1) : Nat)) := (hbl2.cell (p := ⟨g, f * 2 + 1, none⟩) hgs).trans (HFC2.out f hlt).2
          clear hc1 hc2 hv
          have HCC : Hid (∀ k, k < (Im.fn s f).1.length → w2.cell? ⟨g2, k, none⟩ = some (.int .i64 ((Im.fn s f).1[k]?.getD 0 : Nat))) := hcells
          have HMM : Hid (∀ c, c ∈ (Im.fn s f).1 → c < s.size ∧ c + Im.sz (Im.bt s c) ≤ s.size) := by
            intro c hc
            have := Im.fn_mem s f c hc
            omega
          have hfl := Im.fn_len s f
          have HJ : Hid (Im.gJump s n f = Im.jmp s (Im.st s f) n (Im.fn s f).1 (Im.fn s f).1) := rfl
          clear hcells
          generalize (Im.fn s f).1 = L at *
          have HST1 : Hid (Im.st s f < Im.st s (f + 1)) := HS1
          have HST2 : Hid (Im.st s (f + 1) ≤ s.size) := HS2
          have hlen : L.length ≤ 1000 := by omega
          clear hfl HS1 HS2
          go_wp2_with fail
          refine (jump_any s (Im.st s f) (Im.st s (f + 1)) n g2 cap2 L _ hs (by have := HST1.out; have := HST2.out; omega) (by omega) hlen HMM.out hg2 HCC.out).mono ?_
          rintro e w3 ⟨rfl, hb3⟩
          rw [← HJ.out]
          have hbl3 := hbl2.trans (hb3.mono hbl2.size)
          clear HJ HCC HMM hc1' hc2'
          cases hg : Im.gJump s n f with
          | some p =>
            have HE : Hid (Im.chk s = (4, (p : Int))) := by
              show Im.chk s = _
              rw [HCHK.out, HOPS.out, HR.out, Im.firstF_hit _ n f p hlt hg]
            have hpl : place (some p) = (p : Int) := rfl
            rw [hpl]
            clear hg hpl HCHK HR HST
            go_wp2
            go_ret2
            exact ⟨ret_ints (by rw [HE.out]) (by rw [HE.out]), hb1.trans (hbl3.mono hb1.size)⟩
          | none =>
            have HE : Hid (Im.firstF (Im.gJump s n) n 0 = Im.firstF (Im.gJump s n) (n - (f + 1)) (f + 1)) := by
              show Im.firstF (Im.gJump s n) n 0 = _
              rw [HR.out, Im.firstF_miss _ n f hlt hg]
            have hpl : place none = (-1 : Int) := rfl
            rw [hpl]
            clear hg hpl HCHK HR HST
            go_wp2
            go_roundw
            case rel => exact ⟨f + 1, by go_num, by omega, HE, hbl3⟩
            case measure => simp [intOf]; omega
        · have HJS : Hid (Im.firstF (Im.gJump s n) n 0 = none) := by
            show Im.firstF (Im.gJump s n) n 0 = none
            rw [HR.out, Im.firstF_done _ n f (by omega)]
          clear HR
          go_wp2
          go_loopw [13] (fun i wr => ∃ (f : Nat), i = .int .i64 f ∧ f ≤ n ∧ Hid (Im.firstF (Im.gFall s) n 0 = Im.firstF (Im.gFall s) (n - f) f) ∧ Below w1.heap.size w1 wr)
            (fun i _ => n - (intOf i).toNat)
          case atStart => exact ⟨0, rfl, by omega, rfl, hbl⟩
          case round =>
            clear hbl
            obtain ⟨f, rfl, hf, HR, hbl⟩ := hrel
            by_cases hlt : f < n
            · obtain ⟨HS1, HS2⟩ := HST.out f hlt
              have hc1 : wr.cell? ⟨g, f * 2, none⟩ = some (.int .i64 (Im.st s f : Nat)) := (hbl.cell (p := ⟨g, f * 2, none⟩) hgs).trans (HFC2.out f hlt).1
              have hc2 : wr.cell? ⟨g, f * 2 + 1, none⟩ = some (.int .i64 (Im.st s (f + 1) : Nat)) := (hbl.cell (p := ⟨g, f * 2 + 1, none⟩) hgs).trans (HFC2.out f hlt).2
              go_wp2_with fail
              refine (starts_fn s f _ hs HS1 HS2).mono ?_
              rintro e w2 ⟨v, rfl, hv, hb2⟩
              obtain ⟨g2, cap2, rfl, hpos, hg2, hcells⟩ := hv (HALL.out f hlt)
              have hbl2 := hbl.trans (hb2.mono hbl.size)
              clear hc1 hc2 hv
              have hcl := hcells ((Im.fn s f).1.length - 1) (by omega)
              have hmem := Im.fn_mem s f _ (Im.lastI_mem (Im.fn s f).1 hpos)
              have hlen := Im.fn_len s f
              have HF : Hid (Im.gFall s f = if Im.bt s (Im.lastI (Im.fn s f).1) = 0 ∨ Im.bt s (Im.lastI (Im.fn s f).1) = 10 ∨ Im.bt s (Im.lastI (Im.fn s f).1) = 17 then none else some (Im.lastI (Im.fn s f).1)) := rfl
              have hla : (Im.fn s f).1[(Im.fn s f).1.length - 1]?.getD 0 = Im.lastI (Im.fn s f).1 := rfl
              rw [hla] at hcl
              clear hcells hla
              generalize Im.lastI (Im.fn s f).1 = c at *
              generalize (Im.fn s f).1.length = m at *
              obtain ⟨m, rfl⟩ : ∃ k, m = k + 1 := ⟨m - 1, by omega⟩
              rw [Nat.add_sub_cancel] at hcl
              have hm : m ≤ 1000 := by omega
              have hcs : c < s.size := by omega
              clear hmem hlen HS1 HS2
              have hop := Im.bt_eq s c hcs
              generalize Im.bt s c = op at *
              have hb3 := hb1.trans (hbl2.mono hb1.size)
              by_cases hgood : op = 0 ∨ op = 10 ∨ op = 17
              · have HE : Hid (Im.firstF (Im.gFall s) n 0 = Im.firstF (Im.gFall s) (n - (f + 1)) (f + 1)) := by
                  show Im.firstF (Im.gFall s) n 0 = _
                  rw [HR.out, Im.firstF_miss _ n f hlt (by rw [HF.out, if_pos hgood])]
                clear HCHK HR HST HALL HOPS HJS HF
                have hcase : ((op : Int) != 0) = false ∨ (((op : Int) != 0) = true ∧ ((op : Int) != 10) = false) ∨ (((op : Int) != 0) = true ∧ ((op : Int) != 10) = true ∧ ((op : Int) != 17) = false) := by
                  rcases hgood with h | h | h <;> simp [h]
                clear hgood
                rcases hcase with e0 | ⟨e0, e1⟩ | ⟨e0, e1, e2⟩
                all_goals
                  go_wp2
                  go_roundw
                  case rel => exact ⟨f + 1, by go_num, by omega, HE, hbl2⟩
                  case measure => simp [intOf]; omega
              · have HE : Hid (Im.chk s = (5, (c : Int))) := by
                  show Im.chk s = _
                  rw [HCHK.out, HOPS.out, HJS.out, HR.out, Im.firstF_hit _ n f c hlt (by rw [HF.out, if_neg hgood])]
                have e0 : ((op : Int) != 0) = true := by rw [bne_iff_ne]; omega
                have e1 : ((op : Int) != 10) = true := by rw [bne_iff_ne]; omega
                have e2 : ((op : Int) != 17) = true := by rw [bne_iff_ne]; omega
                clear HCHK HR HST HALL HOPS HJS HF hgood
                go_wp2
                go_ret2
                exact ⟨ret_ints (by rw [HE.out]) (by rw [HE.out]), hb3⟩
            · have HFS : Hid (Im.chk s = (0, 0)) := by
                show Im.chk s = (0, 0)
                rw [HCHK.out, HOPS.out, HJS.out, HR.out, Im.firstF_done _ n f (by omega)]
              clear HCHK HOPS HJS HR HST HALL
              go_wp2
              go_ret2
              exact ⟨ret_ints (by rw [HFS.out]) (by rw [HFS.out]), hb1.trans (hbl.mono hb1.size)⟩

/-- THE DOCUMENT's Check: what it answers; nothing old is changed. -/
theorem check_any (s : ByteArray) (w : World) :
    Calls Tryz.prog 55 #[.string s] w fun e w' => e = .returned (.tuple #[.int .i64 (Im.chk s).1, .int .i64 (Im.chk s).2]) ∧ Below w.heap.size w w' := by
  by_cases h : 200 < s.size
  · exact check_long s w h
  · cases hp : Im.hd s with
    | some p => exact check_head s p w (by omega) hp
    | none => exact check_rest s w (by omega) hp
end Go.Proofs.YtbmaiioecnmopaaGreatDoor

/-
  THE PROGRAM's SIDE (package triage): layOut. By the verifier of the loop 'triage'.
-/
namespace Go.Proofs.YtbmaiioecnmopaaGreatDoor
open Go.RowKit

theorem heap_new (w : World) (o : Obj) : (w.alloc o).heap[w.heap.size]? = some o := by
  show (w.heap.push o)[w.heap.size]? = some o
  simp
theorem str_empty (s : ByteArray) (h : s.size = 0) : s.toList.isEmpty = true := by
  rw [ByteArray.toList_eq, List.isEmpty_iff]
  have : s.data.toList.length = 0 := by simpa using h
  exact List.length_eq_zero_iff.1 this
theorem str_some (s : ByteArray) (h : 0 < s.size) : s.toList.isEmpty = false := by
  rw [ByteArray.toList_eq, Bool.eq_false_iff]
  intro hh
  rw [List.isEmpty_iff] at hh
  have : s.data.toList.length = 0 := by rw [hh]; rfl
  have h2 : s.data.toList.length = s.size := by simp
  omega
/-- an error that is a flaw, in memory of its own. -/
def Flawed (B : Nat) (w : World) (er : Value) (c p : Int) : Prop :=
  ∃ b, er = .iface 106 (.pointer (some ⟨b, 0, none⟩)) ∧ B ≤ b ∧ w.heap[b]? = some (.cells #[.int .i64 c, .int .i64 p] 111 (0, 0))
/-- the functions' first places. -/
def stL (s : ByteArray) : Nat → List Nat
  | 0 => []
  | j + 1 => stL s j ++ [Im.st s j]
theorem stL_len (s : ByteArray) (j : Nat) : (stL s j).length = j := by
  induction j with
  | zero => rfl
  | succ j ih => simp [stL, ih]

theorem flawed_new (w : World) (c p : Int) : Flawed w.heap.size (w.alloc (.cells #[.int .i64 c, .int .i64 p] 111)) (.iface 106 (.pointer (some ⟨w.heap.size, 0, none⟩))) c p :=
  ⟨w.heap.size, rfl, Nat.le_refl _, heap_new _ _⟩

theorem flawed_in {B : Nat} {w : World} (h : B ≤ w.heap.size) (c p : Int) : Flawed B (w.alloc (.cells #[.int .i64 c, .int .i64 p] 111)) (.iface 106 (.pointer (some ⟨w.heap.size, 0, none⟩))) c p :=
  ⟨w.heap.size, rfl, h, heap_new _ _⟩

set_option maxHeartbeats 400000 in
theorem layOut_long (s : ByteArray) (w : World) (hs : 200 < s.size) :
    Calls Tryz.prog 41 #[.string s] w fun e w' => ∃ er, e = .returned (.tuple #[.slice none 0 0, er]) ∧ Flawed w.heap.size w' er 1 0 ∧ Below w.heap.size w w' := by
  go_enter Tryz.func41, Tryz.ntmps41
  go_wp2
  go_ret2
  exact ⟨_, rfl, flawed_new w 1 0, (Below.refl _ _).alloc (Nat.le_refl _) _⟩

set_option maxHeartbeats 400000 in
theorem layOut_zero (s : ByteArray) (w : World) (hs : s.size ≤ 200) (h : s.size = 0 ∨ Im.bt s 0 < 1 ∨ 6 < Im.bt s 0) :
    Calls Tryz.prog 41 #[.string s] w fun e w' => ∃ er, e = .returned (.tuple #[.slice none 0 0, er]) ∧ Flawed w.heap.size w' er 2 0 ∧ Below w.heap.size w w' := by
  by_cases h0 : s.size = 0
  · have he := str_empty s h0
    go_enter Tryz.func41, Tryz.ntmps41
    go_wp2
    go_ret2
    exact ⟨_, rfl, flawed_new w 2 0, (Below.refl _ _).alloc (Nat.le_refl _) _⟩
  · have hp : 0 < s.size := by omega
    have he := str_some s hp
    have hn := Im.bt_eq s 0 hp
    have hn256 := Im.bt_lt s 0
    generalize Im.bt s 0 = n at *
    clear h0
    by_cases h1 : n < 1
    · clear h
      go_enter Tryz.func41, Tryz.ntmps41
      go_wp2
      go_ret2
      exact ⟨_, rfl, flawed_new w 2 0, (Below.refl _ _).alloc (Nat.le_refl _) _⟩
    · have h2 : 6 < n := by omega
      clear h
      go_enter Tryz.func41, Tryz.ntmps41
      go_wp2
      go_ret2
      exact ⟨_, rfl, flawed_new w 2 0, (Below.refl _ _).alloc (Nat.le_refl _) _⟩

theorem owns_one (w : World) (k : Nat) : (w.alloc (.cells #[.int .i64 (k : Int)] 3)).ownsRow w.heap.size 3 1 (.slice (some ⟨w.heap.size, 0, none⟩) 1 1) 1 (ints [k]) :=
  ⟨rfl, Or.inr ⟨w.heap.size, 1, #[.int .i64 (k : Int)], rfl, Nat.le_refl _, heap_new _ _, Nat.le_refl _, by decide, rfl, rfl⟩⟩
theorem int_bne {a b : Nat} (h : a ≠ b) : ((a : Int) != (b : Int)) = true := by rw [bne_iff_ne]; omega
theorem int_bne_self (a : Nat) : ((a : Int) != (a : Int)) = false := by simp

/-- how layOut ends (of a text of at most 200 bytes). -/
def LayPost (s : ByteArray) (n : Nat) (w w' : World) (e : Ending) : Prop :=
  (∃ p er, Im.hd s = some p ∧ e = .returned (.tuple #[.slice none 0 0, er]) ∧ Flawed w.heap.size w' er 2 p ∧ Below w.heap.size w w') ∨
  (∃ v, Im.hd s = none ∧ e = .returned (.tuple #[v, .nilIface]) ∧ w'.ownsRow w.heap.size 3 1 v (n + 1) (ints (stL s (n + 1))) ∧ Below w.heap.size w w')

set_option maxHeartbeats 1600000 in
set_option maxRecDepth 100000 in
theorem layOut_any (s : ByteArray) (w : World) (hs : s.size ≤ 200) (hgood : ¬ (s.size = 0 ∨ Im.bt s 0 < 1 ∨ 6 < Im.bt s 0)) :
    Calls Tryz.prog 41 #[.string s] w fun e w' => LayPost s (Im.bt s 0) w w' e := by
  obtain ⟨i0, hi, hz0, hz1, hz2⟩ := info_parts Tryz.infoInt
  have hp : 0 < s.size := by omega
  have he := str_some s hp
  have HL := Im.hd_len s hgood
  have HE := Im.hd_end s hgood
  have hst0 : Im.st s 0 = 1 + Im.bt s 0 := rfl
  have hn := Im.bt_eq s 0 hp
  generalize Im.bt s 0 = n at *
  have hn1 : 1 ≤ n := by omega
  have hn6 : n ≤ 6 := by omega
  have HH : Hid ((∀ i, Im.hscan s n 1 = some i → Im.hd s = some i) ∧ (Im.hscan s n 1 = none → Im.hd s = if s.size < Im.st s n then some s.size else if Im.st s n < s.size then some (Im.st s n) else none)) := ⟨HL, HE⟩
  have HS0 : Hid (1 + n = Im.st s 0) := hst0.symm
  clear HL HE hgood hst0
  go_enter Tryz.func41, Tryz.ntmps41
  go_wp2
  go_loopw [5, 6, 7] (fun end_ v i wr => ∃ (j a : Nat), i = .int .i64 j ∧ end_ = .int .i64 a ∧ 1 ≤ j ∧ j ≤ n + 1 ∧ a ≤ 60 * j ∧ j ≤ s.size ∧ Hid (a = Im.st s (j - 1)) ∧ Hid (Im.hscan s n 1 = Im.hscan s (n + 1 - j) j) ∧
      wr.ownsRow w.heap.size 3 1 v j (ints (stL s j)) ∧ Below w.heap.size w wr)
    (fun _ _ i _ => n + 1 - (intOf i).toNat)
  case atStart =>
    refine ⟨1, 1 + n, rfl, by go_num, by omega, by omega, by omega, by omega, HS0, rfl, ?_, (Below.refl _ _).alloc (Nat.le_refl _) _⟩
    have h := owns_one w (1 + n)
    rw [HS0.out] at h
    have h3 : (1 : Int) + (n : Int) = ((Im.st s 0 : Nat) : Int) := by rw [← HS0.out]; simp
    rw [h3]
    exact h
  case round =>
    obtain ⟨j, a, rfl, rfl, hj1, hjn, ha, hjs0, HA, HR, hown, hbl⟩ := hrel
    by_cases hle : j ≤ n
    · by_cases hjs : j < s.size
      · have hjne : ((j : Int) == (s.size : Int)) = false := by rw [beq_eq_false_iff_ne]; omega
        have hej := Im.bt_eq s j hjs
        have hok0 := Im.okLen_not s j
        have hok1 := Im.okLen_yes s j hjs
        have hstj := Im.st_pred s j hj1
        have hm256 := Im.bt_lt s j
        generalize Im.bt s j = m at *
        by_cases hbad : m < 1 ∨ 60 < m
        · have HB : Hid (Im.hd s = some j) := HH.out.1 j (by rw [HR.out]; exact Im.hscan_bad s n j hle (hok0 (by omega)))
          clear hok0 hok1 hstj
          rcases hbad with hbad | hbad
          · go_wp2
            go_ret2
            exact Or.inl ⟨j, _, HB.out, rfl, flawed_in hbl.size 2 j, hbl.alloc hbl.size _⟩
          · have hm1 : ¬ m < 1 := by omega
            go_wp2
            go_ret2
            exact Or.inl ⟨j, _, HB.out, rfl, flawed_in hbl.size 2 j, hbl.alloc hbl.size _⟩
        · have hm1 : 1 ≤ m := by omega
          have hm2 : m ≤ 60 := by omega
          have HR' : Hid (Im.hscan s n 1 = Im.hscan s (n + 1 - (j + 1)) (j + 1)) := by
            show Im.hscan s n 1 = _
            rw [HR.out]; exact Im.hscan_good s n j hle (hok1 hm1 hm2)
          have HA' : Hid (a + m = Im.st s j) := by show a + m = _; rw [hstj, HA.out]
          clear hok0 hok1 hstj hbad
          go_wp2_with (at_builtin; refine wpList_append_own _ rfl _ _ 32 rfl w.heap.size 3 i0 (.int .i64 0) 1 8 Tryz.undInts hi hz0 hz1 hz2 rfl (by decide) _ _ _ rfl (hown.alloc _) ⟨wr.heap.size, 0, none⟩ 1 1 [.int .i64 (a + m : Nat)] rfl rfl ?c1 ?c2 ?c3 ?c4 ?c5 ?_)
          case c1 =>
            intro i u hj
            match i, hj with
            | 0, hj => simp at hj; subst hj; simp [Addr.add]
          case c2 => intro u hu; simp at hu; subst hu; rfl
          case c3 => unfold maxLen; omega
          case c4 => omega
          case c5 => have := hbl.size; simp; omega
          · intro v' w1 hown' hgrow _
            have hb1 := below_app hown hgrow hbl (by have := hbl.size; omega)
            have ho1 : w1.ownsRow w.heap.size 3 1 v' (j + 1) (ints (stL s (j + 1))) := by
              simp only [stL, ints, List.map_append, List.map_cons, List.map_nil]
              rw [← HA'.out]
              simpa using hown'
            clear hown' hgrow hown hbl
            go_wp2
            go_roundw
            case rel => exact ⟨j + 1, a + m, by go_num, by go_num, by omega, by omega, by omega, by omega, HA', HR', ho1, hb1⟩
            case measure => simp [intOf]; omega
      · have hjne : ((j : Int) == (s.size : Int)) = true := by rw [beq_iff_eq]; omega
        have HB : Hid (Im.hd s = some j) := HH.out.1 j (by rw [HR.out]; exact Im.hscan_bad s n j hle (Im.okLen_not s j (by omega)))
        go_wp2
        go_ret2
        exact Or.inl ⟨j, _, HB.out, rfl, flawed_in hbl.size 2 j, hbl.alloc hbl.size _⟩
    · have HB := HH.out.2 (by rw [HR.out]; exact Im.hscan_done s n j (by omega))
      have hj : j - 1 = n := by omega
      have HA2 : Hid (a = Im.st s n) := by rw [← hj]; exact HA
      rw [← HA2.out] at HB
      have HB2 : Hid (Im.hd s = if s.size < a then some s.size else if a < s.size then some a else none) := HB
      clear HB hj
      by_cases h1 : s.size < a
      · have hne := int_bne (a := s.size) (b := a) (by omega)
        have hmin : (if (s.size : Int) < (a : Int) then (s.size : Int) else (a : Int)) = s.size := by rw [if_pos (by omega)]
        go_wp2
        go_ret2
        exact Or.inl ⟨s.size, _, by rw [HB2.out, if_pos h1], rfl, flawed_in hbl.size 2 s.size, hbl.alloc hbl.size _⟩
      · by_cases h2 : a < s.size
        · have hne := int_bne (a := s.size) (b := a) (by omega)
          go_wp2
          go_ret2
          exact Or.inl ⟨a, _, by rw [HB2.out, if_neg h1, if_pos h2], rfl, flawed_in hbl.size 2 a, hbl.alloc hbl.size _⟩
        · have hea : ((s.size : Int) != (a : Int)) = false := by rw [bne_eq_false_iff_eq]; omega
          have HJ : Hid (j = n + 1) := by show j = n + 1; omega
          go_wp2
          go_ret2
          refine Or.inr ⟨_, by rw [HB2.out, if_neg h1, if_neg h2], rfl, ?_, hbl⟩
          rw [← HJ.out]; exact hown

theorem layOut_all (s : ByteArray) (w : World) (hs : s.size ≤ 200) :
    Calls Tryz.prog 41 #[.string s] w fun e w' => LayPost s (Im.bt s 0) w w' e := by
  by_cases h : s.size = 0 ∨ Im.bt s 0 < 1 ∨ 6 < Im.bt s 0
  · refine (layOut_zero s w hs h).mono ?_
    rintro e w' ⟨er, rfl, h1, h2⟩
    exact Or.inl ⟨0, er, Im.hd_zero s h, rfl, h1, h2⟩
  · exact layOut_any s w hs h
end Go.Proofs.YtbmaiioecnmopaaGreatDoor

/-
  THE PROGRAM's SIDE (package triage): the memory of a program that is read; decode. By the verifier of the loop 'triage'.
-/
namespace Go.Proofs.YtbmaiioecnmopaaGreatDoor
open Go.RowKit

/-- how many numbers an op takes. -/
def tk (op : Nat) : Nat := if op = 2 ∨ op = 3 ∨ op = 11 ∨ op = 15 then 1 else if (4 ≤ op ∧ op ≤ 9) ∨ op = 16 then 2 else 0
/-- the byte behind an op that has one. -/
def ar (s : ByteArray) (i : Nat) : Nat := if Im.sz (Im.bt s i) = 2 then Im.bt s (i + 1) else 0

/-- THE MEMORY of a program that is read: its struct at bp, the functions' first places at bs, the code at bc; D: the places that are filled in. -/
structure Mem (s : ByteArray) (n bp bs bc cs : Nat) (D : List Nat) (w : World) : Prop where
  starts : w.cell? ⟨bp, 0, none⟩ = some (.slice (some ⟨bs, 0, none⟩) (n + 1) cs)
  code : w.cell? ⟨bp, 1, none⟩ = some (.slice (some ⟨bc, 0, none⟩) s.size s.size)
  st : ∀ j, j ≤ n → w.cell? ⟨bs, j, none⟩ = some (.int .i64 (Im.st s j : Nat))
  c0 : ∀ i, i < s.size → w.cell? ⟨bc, i * 4, none⟩ = some (.int .i64 (if i ∈ D then tk (Im.bt s i) else 0 : Nat))
  c1 : ∀ i, i < s.size → w.cell? ⟨bc, i * 4 + 1, none⟩ = some (.int .i64 (if i ∈ D then Im.sz (Im.bt s i) else 0 : Nat))
  c2 : ∀ i, i < s.size → w.cell? ⟨bc, i * 4 + 2, none⟩ = some (.int .u8 (if i ∈ D then Im.bt s i else 0 : Nat))
  c3 : ∀ i, i < s.size → w.cell? ⟨bc, i * 4 + 3, none⟩ = some (.int .u8 (if i ∈ D then ar s i else 0 : Nat))
  frz : ∀ o, w.frozen? ⟨bc, o, none⟩ = false
  tab0 : ∀ op, op < 18 → w.cell? ⟨2, op * 2, none⟩ = some (.int .i64 (tk op : Nat))
  tab1 : ∀ op, op < 18 → w.cell? ⟨2, op * 2 + 1, none⟩ = some (.int .i64 (Im.sz op : Nat))
  ltp : bp < w.heap.size
  lts : bs < w.heap.size
  ltc : bc < w.heap.size
  nep : bp ≠ bc
  nes : bs ≠ bc
  net : 2 ≠ bc

theorem gr_trans {b : Nat} {w w1 w2 : World} (h : w.grownBy w1 (some b)) (k : w1.grownBy w2 (some b)) : w.grownBy w2 (some b) :=
  ⟨k.os.trans h.os, k.tape.trans h.tape, k.output.trans h.output, Nat.le_trans h.size k.size, fun j hj hne => (k.block j (Nat.lt_of_lt_of_le hj h.size) hne).trans (h.block j hj hne)⟩
theorem gr_setCell {b : Nat} {w w1 : World} (h : w.grownBy w1 (some b)) (o : Nat) (v : Value) : w.grownBy (w1.setCell ⟨b, o, none⟩ v) (some b) :=
  gr_trans h ⟨rfl, rfl, rfl, by simp, fun j _ hne => Below.heap_setCell _ _ _ _ (fun e => hne (by rw [e]))⟩
theorem gr_drew {b : Nat} {w w1 : World} (h : w.grownBy w1 (some b)) : w.grownBy w1.drew (some b) := gr_trans h ⟨rfl, rfl, rfl, Nat.le_refl _, fun _ _ _ => rfl⟩
theorem gr_alloc {b : Nat} {w w1 : World} (h : w.grownBy w1 (some b)) (o : Obj) : w.grownBy (w1.alloc o) (some b) := gr_trans h (World.grownBy_alloc _ _ _)

theorem Mem.put {s : ByteArray} {n bp bs bc cs : Nat} {D : List Nat} {w w' : World} (hM : Mem s n bp bs bc cs D w) (c : Nat) (hg : w.grownBy w' (some bc))
    (hb : ∀ o, o < c * 4 ∨ c * 4 + 4 ≤ o → w'.cell? ⟨bc, o, none⟩ = w.cell? ⟨bc, o, none⟩) (hfr : ∀ o, w'.frozen? ⟨bc, o, none⟩ = false)
    (h0 : w'.cell? ⟨bc, c * 4, none⟩ = some (.int .i64 (tk (Im.bt s c) : Nat))) (h1 : w'.cell? ⟨bc, c * 4 + 1, none⟩ = some (.int .i64 (Im.sz (Im.bt s c) : Nat)))
    (h2 : w'.cell? ⟨bc, c * 4 + 2, none⟩ = some (.int .u8 (Im.bt s c : Nat))) (h3 : w'.cell? ⟨bc, c * 4 + 3, none⟩ = some (.int .u8 (ar s c : Nat))) : Mem s n bp bs bc cs (D ++ [c]) w' where
  starts := hg.cell hM.starts (by simpa using hM.nep)
  code := hg.cell hM.code (by simpa using hM.nep)
  st j hj := hg.cell (hM.st j hj) (by simpa using hM.nes)
  c0 i hi := by
    by_cases he : i = c
    · subst he; rw [h0, if_pos (by simp)]
    · rw [hb _ (by omega), hM.c0 i hi]; simp [he]
  c1 i hi := by
    by_cases he : i = c
    · subst he; rw [h1, if_pos (by simp)]
    · rw [hb _ (by omega), hM.c1 i hi]; simp [he]
  c2 i hi := by
    by_cases he : i = c
    · subst he; rw [h2, if_pos (by simp)]
    · rw [hb _ (by omega), hM.c2 i hi]; simp [he]
  c3 i hi := by
    by_cases he : i = c
    · subst he; rw [h3, if_pos (by simp)]
    · rw [hb _ (by omega), hM.c3 i hi]; simp [he]
  frz := hfr
  tab0 op h := hg.cell (hM.tab0 op h) (by simpa using hM.net)
  tab1 op h := hg.cell (hM.tab1 op h) (by simpa using hM.net)
  ltp := Nat.lt_of_lt_of_le hM.ltp hg.size
  lts := Nat.lt_of_lt_of_le hM.lts hg.size
  ltc := Nat.lt_of_lt_of_le hM.ltc hg.size
  nep := hM.nep
  nes := hM.nes
  net := hM.net
/-- what is kept where nothing old turns. -/
theorem Mem.below {s : ByteArray} {n bp bs bc cs : Nat} {D : List Nat} {w w' : World} (hM : Mem s n bp bs bc cs D w) (hg : Below w.heap.size w w') : Mem s n bp bs bc cs D w' where
  starts := (hg.cell (p := ⟨bp, 0, none⟩) hM.ltp).trans hM.starts
  code := (hg.cell (p := ⟨bp, 1, none⟩) hM.ltp).trans hM.code
  st j hj := (hg.cell (p := ⟨bs, j, none⟩) hM.lts).trans (hM.st j hj)
  c0 i hi := (hg.cell (p := ⟨bc, _, none⟩) hM.ltc).trans (hM.c0 i hi)
  c1 i hi := (hg.cell (p := ⟨bc, _, none⟩) hM.ltc).trans (hM.c1 i hi)
  c2 i hi := (hg.cell (p := ⟨bc, _, none⟩) hM.ltc).trans (hM.c2 i hi)
  c3 i hi := (hg.cell (p := ⟨bc, _, none⟩) hM.ltc).trans (hM.c3 i hi)
  frz o := (hg.frozen (p := ⟨bc, o, none⟩) hM.ltc).trans (hM.frz o)
  tab0 op h := (hg.cell (p := ⟨2, op * 2, none⟩) (World.block_lt_of_cell? w _ (hM.tab0 op h))).trans (hM.tab0 op h)
  tab1 op h := (hg.cell (p := ⟨2, op * 2 + 1, none⟩) (World.block_lt_of_cell? w _ (hM.tab1 op h))).trans (hM.tab1 op h)
  ltp := Nat.lt_of_lt_of_le hM.ltp hg.size
  lts := Nat.lt_of_lt_of_le hM.lts hg.size
  ltc := Nat.lt_of_lt_of_le hM.ltc hg.size
  nep := hM.nep
  nes := hM.nes
  net := hM.net

/-- the cells behind the stores of one instruction. -/
theorem put4 {w : World} {bc c : Nat} {v0 v1 v2 v3 : Value} {x0 x1 x2 x3 : Value} (q0 : w.cell? ⟨bc, c * 4, none⟩ = some x0) (q1 : w.cell? ⟨bc, c * 4 + 1, none⟩ = some x1) (q2 : w.cell? ⟨bc, c * 4 + 2, none⟩ = some x2) (q3 : w.cell? ⟨bc, c * 4 + 3, none⟩ = some x3) :
    let w' := (((w.setCell ⟨bc, c * 4, none⟩ v0).setCell ⟨bc, c * 4 + 1, none⟩ v1).setCell ⟨bc, c * 4 + 2, none⟩ v2).setCell ⟨bc, c * 4 + 3, none⟩ v3
    w'.cell? ⟨bc, c * 4, none⟩ = some v0 ∧ w'.cell? ⟨bc, c * 4 + 1, none⟩ = some v1 ∧ w'.cell? ⟨bc, c * 4 + 2, none⟩ = some v2 ∧ w'.cell? ⟨bc, c * 4 + 3, none⟩ = some v3 ∧
      (∀ o, o < c * 4 ∨ c * 4 + 4 ≤ o → w'.cell? ⟨bc, o, none⟩ = w.cell? ⟨bc, o, none⟩) ∧ (∀ a, w'.frozen? a = w.frozen? a) ∧ w.grownBy w' (some bc) := by
  intro w'
  have oth : ∀ (w : World) (o p : Nat) (v : Value), o ≠ p → (w.setCell ⟨bc, o, none⟩ v).cell? ⟨bc, p, none⟩ = w.cell? ⟨bc, p, none⟩ := fun w o p v _ => World.cell?_setCell_other _ _ _ _ (by simp)
  refine ⟨?_, ?_, ?_, ?_, ?_, ?_, ?_⟩
  · show ((((w.setCell _ _).setCell _ _).setCell _ _).setCell _ _).cell? _ = _
    rw [oth _ _ _ _ (by omega), oth _ _ _ _ (by omega), oth _ _ _ _ (by omega), World.cell?_setCell_same _ _ _ q0]
  · show ((((w.setCell _ _).setCell _ _).setCell _ _).setCell _ _).cell? _ = _
    rw [oth _ _ _ _ (by omega), oth _ _ _ _ (by omega), World.cell?_setCell_same _ _ _ ((oth _ _ _ _ (by omega)).trans q1)]
  · show ((((w.setCell _ _).setCell _ _).setCell _ _).setCell _ _).cell? _ = _
    rw [oth _ _ _ _ (by omega), World.cell?_setCell_same _ _ _ ((oth _ _ _ _ (by omega)).trans ((oth _ _ _ _ (by omega)).trans q2))]
  · show ((((w.setCell _ _).setCell _ _).setCell _ _).setCell _ _).cell? _ = _
    rw [World.cell?_setCell_same _ _ _ ((oth _ _ _ _ (by omega)).trans ((oth _ _ _ _ (by omega)).trans ((oth _ _ _ _ (by omega)).trans q3)))]
  · intro o ho
    show ((((w.setCell _ _).setCell _ _).setCell _ _).setCell _ _).cell? _ = _
    rw [oth _ _ _ _ (by omega), oth _ _ _ _ (by omega), oth _ _ _ _ (by omega), oth _ _ _ _ (by omega)]
  · intro a
    show ((((w.setCell _ _).setCell _ _).setCell _ _).setCell _ _).frozen? _ = _
    simp [World.frozen?_setCell]
  · exact gr_setCell (gr_setCell (gr_setCell (gr_setCell (World.grownBy.refl w _) _ _) _ _) _ _) _ _

theorem Mem.put4 {s : ByteArray} {n bp bs bc cs : Nat} {D : List Nat} {w : World} (hM : Mem s n bp bs bc cs D w) (c op v : Nat) (hc : c < s.size) (hop : Im.bt s c = op) (hv : ar s c = v) :
    Mem s n bp bs bc cs (D ++ [c]) ((((w.setCell ⟨bc, c * 4, none⟩ (.int .i64 (tk op : Nat))).setCell ⟨bc, c * 4 + 1, none⟩ (.int .i64 (Im.sz op : Nat))).setCell ⟨bc, c * 4 + 2, none⟩ (.int .u8 (op : Nat))).setCell ⟨bc, c * 4 + 3, none⟩ (.int .u8 (v : Nat))) ∧
    w.grownBy ((((w.setCell ⟨bc, c * 4, none⟩ (.int .i64 (tk op : Nat))).setCell ⟨bc, c * 4 + 1, none⟩ (.int .i64 (Im.sz op : Nat))).setCell ⟨bc, c * 4 + 2, none⟩ (.int .u8 (op : Nat))).setCell ⟨bc, c * 4 + 3, none⟩ (.int .u8 (v : Nat))) (some bc) := by
  subst hop hv
  obtain ⟨h0, h1, h2, h3, h4, h5, h6⟩ := @Go.Proofs.YtbmaiioecnmopaaGreatDoor.put4 w bc c (.int .i64 (tk (Im.bt s c) : Nat)) (.int .i64 (Im.sz (Im.bt s c) : Nat)) (.int .u8 (Im.bt s c : Nat)) (.int .u8 (ar s c : Nat)) _ _ _ _ (hM.c0 c hc) (hM.c1 c hc) (hM.c2 c hc) (hM.c3 c hc)
  exact ⟨hM.put c h6 h4 (fun o => (h5 _).trans (hM.frz o)) h0 h1 h2 h3, h6⟩
theorem Mem.drew {s : ByteArray} {n bp bs bc cs : Nat} {D : List Nat} {w : World} (hM : Mem s n bp bs bc cs D w) : Mem s n bp bs bc cs D w.drew := hM.below ((Below.refl _ _).drew)
theorem set_again (w : World) (b o : Nat) (u v : Value) : (w.setCell ⟨b, o, none⟩ u).setCell ⟨b, o, none⟩ v = w.setCell ⟨b, o, none⟩ v := by
  have h : ∀ (H : Array Obj) (f g : Obj → Obj), (∀ x, g (f x) = g x) → (H.modify b f).modify b g = H.modify b g := by
    intro H f g hfg
    apply Array.ext
    · simp
    · intro i h1 h2
      simp only [Array.getElem_modify]
      split
      · exact hfg _
      · rfl
  have h2 := h w.heap (fun | .cells c elem frozen => .cells (c.setIfInBounds o u) elem frozen | x => x) (fun | .cells c elem frozen => .cells (c.setIfInBounds o v) elem frozen | x => x) (by
    intro x
    cases x <;> simp [Array.setIfInBounds_setIfInBounds])
  show ({ w with heap := _ } : World) = { w with heap := _ }
  congr 1

/-- how decode ends. -/
def DecPost (s : ByteArray) (n f bp bs bc cs : Nat) (D : List Nat) (w w' : World) (e : Ending) : Prop :=
  (Im.gOp s f = none ∧ e = .returned .nilIface ∧ Mem s n bp bs bc cs (D ++ (Im.fn s f).1) w' ∧ w.grownBy w' (some bc)) ∨
  (∃ p er, Im.gOp s f = some p ∧ e = .returned er ∧ Flawed w.heap.size w' er 3 p ∧ w.grownBy w' (some bc))

set_option maxHeartbeats 4000000 in
set_option maxRecDepth 100000 in
theorem decode_any (s : ByteArray) (n f bp bs bc cs : Nat) (D : List Nat) (w : World) (hs : s.size ≤ 200) (hn : n ≤ 6) (hf : f < n)
    (h1 : Im.st s f < Im.st s (f + 1)) (h2 : Im.st s (f + 1) ≤ s.size) (hM : Mem s n bp bs bc cs D w) :
    Calls Tryz.prog 43 #[.pointer (some ⟨bp, 0, none⟩), .string s, .int .i64 f] w fun e w' => DecPost s n f bp bs bc cs D w w' e := by
  have m1 := hM.starts
  have m2 := hM.st f (by omega)
  have m3 := hM.st (f + 1) (by omega)
  have HF : Hid (Im.fn s f = Im.run s (Im.st s (f + 1)) (Im.st s f)) := rfl
  generalize Im.st s (f + 1) = q at *
  generalize Im.st s f = p at *
  go_enter Tryz.func43, Tryz.ntmps43
  go_wp2
  go_loopw [8] (fun i wr => ∃ (c : Nat) (L : List Nat), i = .int .i64 c ∧ c ≤ q ∧ Hid (Im.fn s f = (L ++ (Im.run s q c).1, (Im.run s q c).2)) ∧ Mem s n bp bs bc cs (D ++ L) wr ∧ w.grownBy wr (some bc))
    (fun i _ => q - (intOf i).toNat)
  case atStart => exact ⟨_, [], rfl, by omega, HF, by rw [List.append_nil]; exact hM, World.grownBy.refl _ _⟩
  case round =>
    obtain ⟨c, L, rfl, hc, HR, hM2, hgr⟩ := hrel
    by_cases hlt : c < q
    · have hcs : c < s.size := by omega
      have hop := Im.bt_eq s c hcs
      have hop256 := Im.bt_lt s c
      have q0 := hM2.c0 c hcs
      have q1 := hM2.c1 c hcs
      have q2 := hM2.c2 c hcs
      have q3 := hM2.c3 c hcs
      have HBAD : Hid ((Im.sz (Im.bt s c) = 0 ∨ q < c + Im.sz (Im.bt s c)) → Im.fn s f = (L, some c)) := fun hb => by rw [HR.out, Im.run_bad s q c hlt hb]; simp
      have HGO : Hid (¬ (Im.sz (Im.bt s c) = 0 ∨ q < c + Im.sz (Im.bt s c)) → Im.fn s f = (L ++ [c] ++ (Im.run s q (c + Im.sz (Im.bt s c))).1, (Im.run s q (c + Im.sz (Im.bt s c))).2)) := fun hb => by rw [HR.out, Im.run_step s q c hlt hb]; simp
      have HAR : Hid (ar s c = if Im.sz (Im.bt s c) = 2 then Im.bt s (c + 1) else 0) := rfl
      obtain ⟨op, HOP⟩ : ∃ op, Hid (Im.bt s c = op) := ⟨_, rfl⟩
      rw [HOP.out] at hop hop256 q0 q1 q2 HBAD HGO HAR
      clear HR
      by_cases hop18 : op < 18
      · have m4 := hM2.tab0 op hop18
        have m5 := hM2.tab1 op hop18
        have m6 := hM2.code
        have f0 := hM2.frz (c * 4)
        have f1 := hM2.frz (c * 4 + 1)
        have f2 := hM2.frz (c * 4 + 2)
        have f3 := hM2.frz (c * 4 + 3)
        have hszp : 1 ≤ Im.sz op := by unfold Im.sz; rw [if_neg (by omega)]; split <;> omega
        have hsz2 := Im.sz_le op
        by_cases hle : c + Im.sz op ≤ q
        · have hnp := hM2.nep
          have hnt := hM2.net
          have HE := HGO.out (by omega)
          have HE2 : Hid (Im.fn s f = (L ++ [c] ++ (Im.run s q (c + Im.sz op)).1, (Im.run s q (c + Im.sz op)).2)) := HE
          clear HE HGO HBAD
          by_cases h2' : Im.sz op = 2
          · have e2 : ((Im.sz op : Int) == 2) = true := by simp [h2']
            have hc1 : c + 1 < s.size := by omega
            have hnn := Im.bt_eq s (c + 1) hc1
            have HAR2 : Hid (ar s c = Im.bt s (c + 1)) := by rw [HAR.out, if_pos h2']; rfl
            generalize Im.bt s (c + 1) = n2 at *
            clear h2'
            obtain ⟨hP, hG⟩ := hM2.put4 c op n2 hcs HOP.out HAR2.out
            rw [List.append_assoc] at hP
            have hPG : Hid (_ ∧ _) := And.intro hP (gr_trans hgr hG)
            clear hP hG
            go_wp2
            go_region
            go_wp2
            go_region
            go_wp2
            go_roundw
            case rel =>
              refine ⟨c + Im.sz op, L ++ [c], by go_num, by omega, HE2, ?_, ?_⟩
              · rw [set_again]; exact hPG.out.1.drew.drew
              · rw [set_again]; exact gr_drew (gr_drew hPG.out.2)
            case measure => simp [intOf]; omega
          · have e2 : ((Im.sz op : Int) == 2) = false := by rw [beq_eq_false_iff_ne]; omega
            have HAR2 : Hid (ar s c = 0) := by rw [HAR.out, if_neg h2']; rfl
            clear h2'
            obtain ⟨hP, hG⟩ := hM2.put4 c op 0 hcs HOP.out HAR2.out
            rw [List.append_assoc] at hP
            have hPG : Hid (_ ∧ _) := And.intro hP (gr_trans hgr hG)
            clear hP hG
            go_wp2
            go_region
            go_wp2
            go_roundw
            case rel => exact ⟨c + Im.sz op, L ++ [c], by go_num, by omega, HE2, hPG.out.1.drew, gr_drew hPG.out.2⟩
            case measure => simp [intOf]; omega
        · have HE := HBAD.out (by omega)
          have HE2 : Hid (Im.fn s f = (L, some c)) := HE
          clear HE HGO HBAD
          go_wp2
          go_ret
          exact Or.inr ⟨c, _, by unfold Im.gOp; rw [HE2.out], rfl, flawed_in hgr.size 3 c, gr_alloc hgr _⟩
      · have HE := HBAD.out (Or.inl (by unfold Im.sz; rw [if_pos (by omega)]))
        have HE2 : Hid (Im.fn s f = (L, some c)) := HE
        clear HE HGO HBAD
        go_wp2
        go_ret
        exact Or.inr ⟨c, _, by unfold Im.gOp; rw [HE2.out], rfl, flawed_in hgr.size 3 c, gr_alloc hgr _⟩
    · have HE : Hid (Im.fn s f = (L, none)) := by
        show Im.fn s f = _
        rw [HR.out, Im.run_end s q c hlt]; simp
      go_wp2
      go_ret
      exact Or.inl ⟨by unfold Im.gOp; rw [HE.out], rfl, by rw [HE.out]; exact hM2, hgr⟩
end Go.Proofs.YtbmaiioecnmopaaGreatDoor

/-
  THE PROGRAM's SIDE (package triage): functions, begins, checkTargets. By the verifier of the loop 'triage'.
-/
namespace Go.Proofs.YtbmaiioecnmopaaGreatDoor
open Go.RowKit

def memB (L : List Nat) (k : Nat) : Bool := decide (k ∈ L)
theorem memB_true {L : List Nat} {k : Nat} (h : k ∈ L) : memB L k = true := by simp [memB, h]
theorem memB_false {L : List Nat} {k : Nat} (h : k ∉ L) : memB L k = false := by simp [memB, h]

/-- of the places between p and q those that are filled in are L's. -/
structure Has (s : ByteArray) (p q : Nat) (D L : List Nat) : Prop where
  iff : ∀ i, p ≤ i → i < q → (i ∈ D ↔ i ∈ L)
  inn : ∀ i, i ∈ L → p ≤ i ∧ i < q ∧ i + Im.sz (Im.bt s i) ≤ q ∧ 1 ≤ Im.sz (Im.bt s i)

set_option maxHeartbeats 400000 in
theorem functions_any (s : ByteArray) (n bp bs bc cs : Nat) (D : List Nat) (w : World) (hn : n ≤ 6) (hM : Mem s n bp bs bc cs D w) :
    Calls Tryz.prog 46 #[.pointer (some ⟨bp, 0, none⟩)] w fun e w' => e = .returned (.int .i64 n) ∧ w = w' := by
  have m1 := hM.starts
  go_enter Tryz.func46, Tryz.ntmps46
  go_wp2
  go_ret
  exact ⟨ret_int (by simp), rfl⟩

set_option maxHeartbeats 800000 in
theorem begins_any (s : ByteArray) (n f m bp bs bc cs p q : Nat) (D L : List Nat) (w : World) (hs : s.size ≤ 200) (hn : n ≤ 6) (hf : f < n) (hm : m < 256)
    (hp : Im.st s f = p) (hq : Im.st s (f + 1) = q) (hqs : q ≤ s.size) (hpq : p ≤ q) (hH : Has s p q D L) (hM : Mem s n bp bs bc cs D w) :
    Calls Tryz.prog 69 #[.pointer (some ⟨bp, 0, none⟩), .int .i64 f, .int .i64 m] w fun e w' => e = .returned (.bool (memB L (p + m))) ∧ w = w' := by
  have m1 := hM.starts
  have m2 := hM.st f (by omega)
  have m3 := hM.st (f + 1) (by omega)
  have m6 := hM.code
  rw [hp] at m2
  rw [hq] at m3
  clear hp hq
  by_cases hlt : p + m < q
  · have c1 := hM.c1 (p + m) (by omega)
    by_cases hin : p + m ∈ L
    · rw [if_pos ((hH.iff _ (by omega) hlt).2 hin)] at c1
      have hsz := (hH.inn _ hin).2.2.2
      have hsz2 := Im.sz_le (Im.bt s (p + m))
      have HE := memB_true hin
      generalize Im.sz (Im.bt s (p + m)) = z at *
      have HEE : Hid (memB L (p + m) = true) := HE
      clear HE hin hM hH
      go_enter Tryz.func69, Tryz.ntmps69
      go_wp2
      go_ret
      exact ⟨ret_bool (by rw [HEE.out]; simp; omega), rfl⟩
    · rw [if_neg (fun h => hin ((hH.iff _ (by omega) hlt).1 h))] at c1
      have HE := memB_false hin
      have HEE : Hid (memB L (p + m) = false) := HE
      clear HE hin hM hH
      go_enter Tryz.func69, Tryz.ntmps69
      go_wp2
      go_ret
      exact ⟨ret_bool (by rw [HEE.out]), rfl⟩
  · have HEE : Hid (memB L (p + m) = false) := memB_false (fun h => by have := hH.inn _ h; omega)
    have hd : decide ((p : Int) + (m : Int) < (q : Int)) = false := by simp; omega
    clear hM hH
    go_enter Tryz.func69, Tryz.ntmps69
    go_wp2
    go_ret
    exact ⟨ret_bool (by rw [HEE.out]), rfl⟩

/-- how checkTargets ends. -/
def TgtPost (o : Option Nat) (c : Int) (w w' : World) (e : Ending) : Prop :=
  (o = none ∧ e = .returned .nilIface ∧ Below w.heap.size w w') ∨ (∃ p er, o = some p ∧ e = .returned er ∧ Flawed w.heap.size w' er c p ∧ Below w.heap.size w w')

theorem tgt_hit {o : Option Nat} {k : Int} {c z : Nat} {w w1 : World} (hE : o = some c) (hb : Below w.heap.size w w1) (hz : w1.heap.size = z) :
    TgtPost o k w (w1.alloc (.cells #[.int .i64 k, .int .i64 c] 111)) (.returned (.iface 106 (.pointer (some ⟨z, 0, none⟩)))) := by
  subst hz
  exact Or.inr ⟨c, _, hE, rfl, flawed_in hb.size k c, hb.alloc hb.size _⟩
theorem jmp_cons_hit (s : ByteArray) (p n c : Nat) (L l : List Nat) (h : Im.badJ s p n L c = true) : Im.jmp s p n L (c :: l) = some c := by
  unfold Im.jmp; simp [h]
theorem jmp_cons_miss (s : ByteArray) (p n c : Nat) (L l : List Nat) (h : Im.badJ s p n L c = false) : Im.jmp s p n L (c :: l) = Im.jmp s p n L l := by
  unfold Im.jmp; simp [h]
theorem quiet_same2 {P : Program} {f : FuncId} {args : Array Value} {w : World} {n : Nat} {v : Value}
    (h : Calls P f args (w.drewN n) fun e w' => e = .returned v ∧ w.drewN n = w') : Calls P f args (w.drewN n) fun e w'' => e = .returned v ∧ ∃ m, w'' = w.drewN m := quiet_same h

set_option maxHeartbeats 4000000 in
set_option maxRecDepth 100000 in
theorem targets_any (s : ByteArray) (n f bp bs bc cs p q : Nat) (D L : List Nat) (w : World) (hs : s.size ≤ 200) (hn : n ≤ 6) (hf : f < n)
    (hp : Im.st s f = p) (hq : Im.st s (f + 1) = q) (hqs : q ≤ s.size) (hpq : p ≤ q) (hL : Im.run s q p = (L, none)) (hH : Has s p q D L) (hM : Mem s n bp bs bc cs D w) :
    Calls Tryz.prog 44 #[.pointer (some ⟨bp, 0, none⟩), .int .i64 f] w fun e w' => TgtPost (Im.jmp s p n L L) 4 w w' e := by
  have m1 := hM.starts
  have m2 := hM.st f (by omega)
  have HP : Hid (Im.st s f = p) := hp
  have HQ : Hid (Im.st s (f + 1) = q) := hq
  rw [hp] at m2
  have HR0 : Hid (Im.jmp s p n L L = Im.jmp s p n L (Im.run s q p).1) := by rw [hL]; rfl
  have HN0 : Hid ((Im.run s q p).2 = none) := by rw [hL]; rfl
  have HI0 : Hid (∀ x, x ∈ (Im.run s q p).1 → x ∈ L) := by rw [hL]; exact fun x h => h
  clear hp hq hL
  go_enter Tryz.func44, Tryz.ntmps44
  go_wp2
  go_loopw [5] (fun i wr => ∃ (c : Nat), i = .int .i64 c ∧ p ≤ c ∧ c ≤ q ∧ Hid (Im.jmp s p n L L = Im.jmp s p n L (Im.run s q c).1) ∧ Hid ((Im.run s q c).2 = none) ∧ Hid (∀ x, x ∈ (Im.run s q c).1 → x ∈ L) ∧ Below w.heap.size w wr)
    (fun i _ => q - (intOf i).toNat)
  case atStart => exact ⟨_, rfl, Nat.le_refl _, hpq, HR0, HN0, HI0, Below.refl _ _⟩
  case round =>
    obtain ⟨c, rfl, hpc, hcq, HR, HN, HI, hbl⟩ := hrel
    have hMr := hM.below hbl
    have m1r := hMr.starts
    have m3r := hMr.st (f + 1) (by omega)
    rw [HQ.out] at m3r
    have m6 := hMr.code
    have hltp := hMr.ltp
    have hltc := hMr.ltc
    have hlts := hMr.lts
    by_cases hlt : c < q
    · have hcs : c < s.size := by omega
      have hnb : ¬ (Im.sz (Im.bt s c) = 0 ∨ q < c + Im.sz (Im.bt s c)) := by
        intro hb
        have h := HN.out
        rw [Im.run_bad s q c hlt hb] at h
        simp at h
      have hst := Im.run_step s q c hlt hnb
      have HSTEP : Hid (Im.run s q c = (c :: (Im.run s q (c + Im.sz (Im.bt s c))).1, (Im.run s q (c + Im.sz (Im.bt s c))).2)) := hst
      have hcL : c ∈ L := HI.out c (by rw [HSTEP.out]; simp)
      have hcD : c ∈ D := (hH.iff c hpc hlt).2 hcL
      have q0 := hMr.c0 c hcs
      have q1 := hMr.c1 c hcs
      have q2 := hMr.c2 c hcs
      have q3 := hMr.c3 c hcs
      rw [if_pos hcD] at q0 q1 q2 q3
      have HN2 : Hid ((Im.run s q (c + Im.sz (Im.bt s c))).2 = none) := by have h := HN.out; rw [HSTEP.out] at h; exact h
      have HI2 : Hid (∀ x, x ∈ (Im.run s q (c + Im.sz (Im.bt s c))).1 → x ∈ L) := fun x hx => HI.out x (by rw [HSTEP.out]; exact List.mem_cons_of_mem _ hx)
      have HHit : Hid (Im.badJ s p n L c = true → Im.jmp s p n L L = some c) := fun h => by rw [HR.out, HSTEP.out]; exact jmp_cons_hit _ _ _ _ _ _ h
      have HMis : Hid (Im.badJ s p n L c = false → Im.jmp s p n L L = Im.jmp s p n L (Im.run s q (c + Im.sz (Im.bt s c))).1) := fun h => by rw [HR.out, HSTEP.out]; exact jmp_cons_miss _ _ _ _ _ _ h
      have hsz2 := Im.sz_le (Im.bt s c)
      have hop256 := Im.bt_lt s c
      have HAR : Hid (Im.sz (Im.bt s c) = 2 → ar s c = Im.bt s (c + 1)) := fun h => by unfold ar; rw [if_pos h]
      have har256 : ar s c < 256 := by unfold ar; split; exact Im.bt_lt _ _; omega
      obtain ⟨op, HOP⟩ : ∃ op, Hid (Im.bt s c = op) := ⟨_, rfl⟩
      obtain ⟨a, HA⟩ : ∃ a, Hid (ar s c = a) := ⟨_, rfl⟩
      rw [HOP.out] at q0 q1 q2 HN2 HI2 HMis hsz2 hop256 hnb HAR
      rw [HA.out] at q3 HAR har256
      have hszp : 1 ≤ Im.sz op := by omega
      have hle : c + Im.sz op ≤ q := by omega
      clear HR HN HI hst HSTEP hcL hcD hnb
      have HMB : Hid (Below w.heap.size w wr) := hbl
      by_cases h12 : op = 12
      · have e12 : ((op : Int) == 12) = true := by simp [h12]
        have e10 : ((op : Int) == 10) = false := by simp [h12]
        have e11 : ((op : Int) == 11) = false := by simp [h12]
        have HA2 : Hid (Im.bt s (c + 1) = a) := (HAR.out (Im.sz_two_iff op (by omega))).symm
        have HM3 : Hid (∀ o nq, Mem s n bp bs bc cs D ((wr.alloc o).drewN nq)) := fun o nq => hMr.below (below_drewN ((Below.refl _ _).alloc (Nat.le_refl _) o) nq)
        by_cases hfn : a < n
        · have HE : Hid (Im.jmp s p n L L = Im.jmp s p n L (Im.run s q (c + Im.sz op)).1) := HMis.out (by simp [Im.badJ, HOP.out, HA2.out, h12]; omega)
          clear h12 HMis HHit HAR
          go_wp2
          go_quiet ((go_at_call 46; exact quiet_same (functions_any s n bp bs bc cs D _ hn (by exact HM3.out _ _))))
          go_wp2
          go_roundw
          case rel => exact ⟨c + Im.sz op, by go_num, by omega, by omega, HE, HN2, HI2, below_drewN (hbl.alloc hbl.size _) _⟩
          case measure => simp [intOf]; omega
        · have HE : Hid (Im.jmp s p n L L = some c) := HHit.out (by simp [Im.badJ, HOP.out, HA2.out, h12]; omega)
          clear h12 HMis HHit HAR
          go_wp2
          go_quiet ((go_at_call 46; exact quiet_same (functions_any s n bp bs bc cs D _ hn (by exact HM3.out _ _))))
          go_wp2
          go_ret
          exact tgt_hit (z := wr.heap.size + 1) HE.out (below_drewN (hbl.alloc hbl.size _) _) (by simp)
      · have e12 : ((op : Int) == 12) = false := by rw [beq_eq_false_iff_ne]; omega
        by_cases h1011 : op = 10 ∨ op = 11
        · have HA2 : Hid (Im.bt s (c + 1) = a) := (HAR.out (Im.sz_two_iff op (by omega))).symm
          have HM3 : Hid (∀ o, Mem s n bp bs bc cs D (wr.alloc o)) := fun o => hMr.below ((Below.refl _ _).alloc (Nat.le_refl _) o)
          have h10b : ((op : Int) == 10) = true ∨ (((op : Int) == 10) = false ∧ ((op : Int) == 11) = true) := by
            rcases h1011 with h | h
            · left; simp [h]
            · right; simp [h]
          by_cases hin : p + a ∈ L
          · have HE : Hid (Im.jmp s p n L L = Im.jmp s p n L (Im.run s q (c + Im.sz op)).1) := HMis.out (by simp [Im.badJ, HOP.out, HA2.out, hin]; omega)
            have em := memB_true hin
            clear h12 h1011 HMis HHit HAR hin
            rcases h10b with e10 | ⟨e10, e11⟩
            all_goals
              go_wp2_with (go_at_call 69; refine (begins_any s n f a bp bs bc cs p q D L _ hs hn hf har256 HP.out HQ.out hqs hpq hH (by exact HM3.out _)).mono ?_; rintro e w' ⟨rfl, rfl⟩)
              go_roundw
              case rel => exact ⟨c + Im.sz op, by go_num, by omega, by omega, HE, HN2, HI2, hbl.alloc hbl.size _⟩
              case measure => simp [intOf]; omega
          · have HE : Hid (Im.jmp s p n L L = some c) := HHit.out (by simp [Im.badJ, HOP.out, HA2.out, hin]; omega)
            have em := memB_false hin
            clear h12 h1011 HMis HHit HAR hin
            rcases h10b with e10 | ⟨e10, e11⟩
            all_goals
              go_wp2_with (go_at_call 69; refine (begins_any s n f a bp bs bc cs p q D L _ hs hn hf har256 HP.out HQ.out hqs hpq hH (by exact HM3.out _)).mono ?_; rintro e w' ⟨rfl, rfl⟩)
              go_ret
              exact tgt_hit (z := wr.heap.size + 1) HE.out (hbl.alloc hbl.size _) (by simp)
        · have e10 : ((op : Int) == 10) = false := by rw [beq_eq_false_iff_ne]; omega
          have e11 : ((op : Int) == 11) = false := by rw [beq_eq_false_iff_ne]; omega
          have HE : Hid (Im.jmp s p n L L = Im.jmp s p n L (Im.run s q (c + Im.sz op)).1) := HMis.out (by simp [Im.badJ, HOP.out]; omega)
          clear h12 h1011 HMis HHit HAR
          go_wp2
          go_roundw
          case rel => exact ⟨c + Im.sz op, by go_num, by omega, by omega, HE, HN2, HI2, hbl.alloc hbl.size _⟩
          case measure => simp [intOf]; omega
    · have HE : Hid (Im.jmp s p n L L = none) := by
        show Im.jmp s p n L L = none
        rw [HR.out, Im.run_end s q c hlt]; rfl
      go_wp2
      go_ret
      exact Or.inl ⟨HE.out, rfl, hbl⟩
end Go.Proofs.YtbmaiioecnmopaaGreatDoor

/-
  THE PROGRAM's SIDE (package triage): checkLast. By the verifier of the loop 'triage'.
-/
namespace Go.Proofs.YtbmaiioecnmopaaGreatDoor
open Go.RowKit

theorem last_cons (c : Nat) (l : List Nat) (h : 0 < l.length) : Im.lastI (c :: l) = Im.lastI l := by
  unfold Im.lastI
  obtain ⟨m, hm⟩ : ∃ m, l.length = m + 1 := ⟨l.length - 1, by omega⟩
  simp [hm]

def fallO (s : ByteArray) (c : Nat) : Option Nat := if Im.bt s c = 0 ∨ Im.bt s c = 10 ∨ Im.bt s c = 17 then none else some c

set_option maxHeartbeats 4000000 in
set_option maxRecDepth 100000 in
theorem last_any (s : ByteArray) (n f bp bs bc cs p q : Nat) (D L : List Nat) (w : World) (hs : s.size ≤ 200) (hn : n ≤ 6) (hf : f < n)
    (hp : Im.st s f = p) (hq : Im.st s (f + 1) = q) (hqs : q ≤ s.size) (hpq : p < q) (hL : Im.run s q p = (L, none)) (hH : Has s p q D L) (hM : Mem s n bp bs bc cs D w) :
    Calls Tryz.prog 45 #[.pointer (some ⟨bp, 0, none⟩), .int .i64 f] w fun e w' => TgtPost (fallO s (Im.lastI L)) 5 w w' e := by
  have m1 := hM.starts
  have m2 := hM.st f (by omega)
  have HP : Hid (Im.st s f = p) := hp
  have HQ : Hid (Im.st s (f + 1) = q) := hq
  rw [hp] at m2
  have HR0 : Hid (Im.lastI L = Im.lastI (Im.run s q p).1) := by rw [hL]; rfl
  have HN0 : Hid ((Im.run s q p).2 = none) := by rw [hL]; rfl
  have HI0 : Hid (∀ x, x ∈ (Im.run s q p).1 → x ∈ L) := by rw [hL]; exact fun x h => h
  clear hp hq hL
  go_enter Tryz.func45, Tryz.ntmps45
  go_wp2
  go_loopw [5] (fun i wr => ∃ (c : Nat), i = .int .i64 c ∧ p ≤ c ∧ c < q ∧ Hid (Im.lastI L = Im.lastI (Im.run s q c).1) ∧ Hid ((Im.run s q c).2 = none) ∧ Hid (∀ x, x ∈ (Im.run s q c).1 → x ∈ L) ∧ Below w.heap.size w wr)
    (fun i _ => q - (intOf i).toNat)
  case atStart => exact ⟨_, rfl, Nat.le_refl _, hpq, HR0, HN0, HI0, Below.refl _ _⟩
  case round =>
    obtain ⟨c, rfl, hpc, hlt, HR, HN, HI, hbl⟩ := hrel
    have hMr := hM.below hbl
    have m1r := hMr.starts
    have m3r := hMr.st (f + 1) (by omega)
    rw [HQ.out] at m3r
    have m6 := hMr.code
    have hcs : c < s.size := by omega
    have hnb : ¬ (Im.sz (Im.bt s c) = 0 ∨ q < c + Im.sz (Im.bt s c)) := by
      intro hb
      have h := HN.out
      rw [Im.run_bad s q c hlt hb] at h
      simp at h
    have hst := Im.run_step s q c hlt hnb
    have HSTEP : Hid (Im.run s q c = (c :: (Im.run s q (c + Im.sz (Im.bt s c))).1, (Im.run s q (c + Im.sz (Im.bt s c))).2)) := hst
    have hcL : c ∈ L := HI.out c (by rw [HSTEP.out]; simp)
    have hcD : c ∈ D := (hH.iff c hpc hlt).2 hcL
    have q1 := hMr.c1 c hcs
    have q2 := hMr.c2 c hcs
    rw [if_pos hcD] at q1 q2
    have HN2 : Hid ((Im.run s q (c + Im.sz (Im.bt s c))).2 = none) := by have h := HN.out; rw [HSTEP.out] at h; exact h
    have HI2 : Hid (∀ x, x ∈ (Im.run s q (c + Im.sz (Im.bt s c))).1 → x ∈ L) := fun x hx => HI.out x (by rw [HSTEP.out]; exact List.mem_cons_of_mem _ hx)
    have hsz2 := Im.sz_le (Im.bt s c)
    have hop256 := Im.bt_lt s c
    have HLS : Hid (c + Im.sz (Im.bt s c) < q → Im.lastI L = Im.lastI (Im.run s q (c + Im.sz (Im.bt s c))).1) := fun h => by
      rw [HR.out, HSTEP.out]
      exact last_cons _ _ (Im.run_ne s q _ h HN2.out)
    have HLE : Hid (¬ c + Im.sz (Im.bt s c) < q → Im.lastI L = c) := fun h => by
      rw [HR.out, HSTEP.out, Im.run_end s q _ h]; rfl
    have HFO : Hid (fallO s c = if Im.bt s c = 0 ∨ Im.bt s c = 10 ∨ Im.bt s c = 17 then none else some c) := rfl
    obtain ⟨op, HOP⟩ : ∃ op, Hid (Im.bt s c = op) := ⟨_, rfl⟩
    rw [HOP.out] at q1 q2 HN2 HI2 hsz2 hop256 hnb HLS HLE HFO
    have hszp : 1 ≤ Im.sz op := by omega
    have hle : c + Im.sz op ≤ q := by omega
    clear HR HN HI hst HSTEP hcL hcD hnb
    by_cases hgo : c + Im.sz op < q
    · have HE : Hid (Im.lastI L = Im.lastI (Im.run s q (c + Im.sz op)).1) := HLS.out hgo
      clear HLS HLE
      go_wp2
      go_quiet (fail)
      go_wp2
      go_roundw
      case rel => exact ⟨c + Im.sz op, by go_num, by omega, by omega, HE, HN2, HI2, below_drewN hbl _⟩
      case measure => simp [intOf]; omega
    · have HE : Hid (Im.lastI L = c) := HLE.out hgo
      clear HLS HLE
      by_cases hgood : op = 0 ∨ op = 10 ∨ op = 17
      · have HO : Hid (fallO s (Im.lastI L) = none) := by rw [HE.out, HFO.out, if_pos hgood]; rfl
        have hcase : ((op : Int) == 0) = true ∨ (((op : Int) == 0) = false ∧ ((op : Int) == 10) = true) ∨ (((op : Int) == 0) = false ∧ ((op : Int) == 10) = false ∧ ((op : Int) == 17) = true) := by
          rcases hgood with h | h | h <;> simp [h]
        clear hgood
        rcases hcase with e0 | ⟨e0, e1⟩ | ⟨e0, e1, e2⟩
        all_goals
          go_wp2
          go_quiet (fail)
          go_wp2
          go_ret
          exact Or.inl ⟨HO.out, rfl, below_drewN hbl _⟩
      · have HO : Hid (fallO s (Im.lastI L) = some c) := by rw [HE.out, HFO.out, if_neg hgood]; rfl
        have e0 : ((op : Int) == 0) = false := by rw [beq_eq_false_iff_ne]; omega
        have e1 : ((op : Int) == 10) = false := by rw [beq_eq_false_iff_ne]; omega
        have e2 : ((op : Int) == 17) = false := by rw [beq_eq_false_iff_ne]; omega
        clear hgood
        go_wp2
        go_quiet (fail)
        go_wp2
        go_ret
        exact tgt_hit (z := wr.heap.size) HO.out (below_drewN hbl _) (by simp)
end Go.Proofs.YtbmaiioecnmopaaGreatDoor
