/-
  MacD, MacE, MacF: THESE TEXTS, JOINED. By the verifier of the loop 'triage'.
-/
import Derived.Test.YtbmaiioecnmopaaGreatDoorJ08
/-
  THE PROGRAM's SIDE (package triage): reckon. By the verifier of the loop 'triage'.
-/
namespace Go.Proofs.YtbmaiioecnmopaaGreatDoor
open Go.RowKit

/-- how reckon ends. -/
def CReck (s inp : ByteArray) (n mb bs bc cs base : Nat) (m : Im.St) (op : Nat) (L : Nat → Value) (w w' : World) (e : Ending) : Prop :=
  (op = 7 ∧ Im.top m.stk = 0 ∧ e = .returned (.int .i64 3) ∧ ∃ L', Mc s inp n mb bs bc cs base { m with stk := m.stk.take (m.stk.length - 2) } false L' w' ∧ Kp mb w L w' L') ∨
   (¬ (op = 7 ∧ Im.top m.stk = 0) ∧ e = .returned (.int .i64 0) ∧ ∃ L', Mc s inp n mb bs bc cs base { m with stk := m.stk.take (m.stk.length - 2) ++ [Im.ari op (Im.snd m.stk) (Im.top m.stk)] } false L' w' ∧ Kp mb w L w' L')

theorem pop2_stk (l : List Nat) (h : 2 ≤ l.length) : (l.take (l.length - 1)).take ((l.take (l.length - 1)).length - 1) = l.take (l.length - 2) ∧ Im.top (l.take (l.length - 1)) = Im.snd l := by
  rw [List.length_take, Nat.min_eq_left (by omega), List.take_take]
  refine ⟨by congr 1; omega, ?_⟩
  unfold Im.top Im.snd
  rw [List.length_take, Nat.min_eq_left (by omega), List.getElem?_take, if_pos (by omega)]
  rfl

theorem cpush_int (s inp : ByteArray) (n mb bs bc cs base : Nat) (m : Im.St) (en : Bool) (L : Nat → Value) (y : Nat) (x : Int) (w : World) (hM : Mc s inp n mb bs bc cs base m en L w) (hl : m.stk.length < 16) (hx : x = (y : Int)) :
    Calls Tryz.prog 73 #[.pointer (some ⟨mb, 0, none⟩), .int .u8 x] w fun e w' => CPush s inp n mb bs bc cs base m en y L w w' e := by
  subst hx; exact cpush_any s inp n mb bs bc cs base m en L y w hM hl
theorem creck_push {s inp : ByteArray} {n mb bs bc cs base : Nat} {m : Im.St} {op : Nat} {L L1 L2 : Nat → Value} {w w1 w2 w3 : World} {e : Ending} (hn : ¬ (op = 7 ∧ Im.top m.stk = 0)) (hK1 : Kp mb w L w1 L1) (hK2 : Kp mb w1 L1 w2 L2) (h : CPush s inp n mb bs bc cs base { m with stk := m.stk.take (m.stk.length - 2) } false (Im.ari op (Im.snd m.stk) (Im.top m.stk)) L2 w2 w3 e) : CReck s inp n mb bs bc cs base m op L w w3 e := by
  obtain ⟨h1, L3, h2, h3⟩ := h
  exact Or.inr ⟨hn, h1, L3, h2, hK1.trans (hK2.trans h3)⟩

set_option maxHeartbeats 3200000 in
set_option maxRecDepth 100000 in
theorem creckon_4 (s inp : ByteArray) (n mb bs bc cs base : Nat) (m : Im.St) (L : Nat → Value) (w : World) (hM : Mc s inp n mb bs bc cs base m false L w) (hl : 2 ≤ m.stk.length) (hl2 : m.stk.length ≤ 16) (hv : ∀ x, x ∈ m.stk → x < 256) :
    Calls Tryz.prog 74 #[.pointer (some ⟨mb, 0, none⟩), .int .u8 4] w fun e w' => CReck s inp n mb bs bc cs base m 4 L w w' e := by
  have hb256 : Im.top m.stk < 256 := hv _ (Im.top_mem m.stk (by omega))
  have ha256 : Im.snd m.stk < 256 := hv _ (Im.snd_mem m.stk hl)
  obtain ⟨hp1, hp2⟩ := pop2_stk m.stk hl
  have hlt1 : (m.stk.take (m.stk.length - 1)).length = m.stk.length - 1 := by rw [List.length_take]; omega
  have hlt2 : (m.stk.take (m.stk.length - 2)).length = m.stk.length - 2 := by rw [List.length_take]; omega
  go_enter Tryz.func74, Tryz.ntmps74
  go_wp2_with fail
  refine (cpop_any s inp n mb bs bc cs base m false L w hM (by omega) (by omega)).mono ?_
  rintro e w1 ⟨rfl, L1, hM1, hK1⟩
  go_wp2_with fail
  refine (cpop_any s inp n mb bs bc cs base _ false L1 w1 hM1 (by show 0 < (m.stk.take (m.stk.length - 1)).length; omega) (by show (m.stk.take (m.stk.length - 1)).length ≤ 100; omega)).mono ?_
  rintro e w2 ⟨rfl, L2, hM2, hK2⟩
  dsimp only at hM2
  rw [hp1] at hM2
  dsimp only
  rw [hp2]
  go_wp2_with fail
  refine (cpush_int s inp n mb bs bc cs base _ false L2 (Im.ari 4 (Im.snd m.stk) (Im.top m.stk)) _ _ hM2 (by show (m.stk.take (m.stk.length - 2)).length < 16; omega) (by unfold Im.ari; rw [if_pos rfl]; omega)).mono ?_
  rintro e w3 h3
  have he := h3.1
  have HP : Hid (CReck s inp n mb bs bc cs base m 4 L w w3 e) := creck_push (by omega) hK1 hK2 h3
  subst he
  clear h3 hM hM1 hM2 hK1 hK2
  go_wp2
  go_ret
  exact HP.out

set_option maxHeartbeats 3200000 in
set_option maxRecDepth 100000 in
theorem creckon_5 (s inp : ByteArray) (n mb bs bc cs base : Nat) (m : Im.St) (L : Nat → Value) (w : World) (hM : Mc s inp n mb bs bc cs base m false L w) (hl : 2 ≤ m.stk.length) (hl2 : m.stk.length ≤ 16) (hv : ∀ x, x ∈ m.stk → x < 256) :
    Calls Tryz.prog 74 #[.pointer (some ⟨mb, 0, none⟩), .int .u8 5] w fun e w' => CReck s inp n mb bs bc cs base m 5 L w w' e := by
  have hb256 : Im.top m.stk < 256 := hv _ (Im.top_mem m.stk (by omega))
  have ha256 : Im.snd m.stk < 256 := hv _ (Im.snd_mem m.stk hl)
  obtain ⟨hp1, hp2⟩ := pop2_stk m.stk hl
  have hlt1 : (m.stk.take (m.stk.length - 1)).length = m.stk.length - 1 := by rw [List.length_take]; omega
  have hlt2 : (m.stk.take (m.stk.length - 2)).length = m.stk.length - 2 := by rw [List.length_take]; omega
  go_enter Tryz.func74, Tryz.ntmps74
  go_wp2_with fail
  refine (cpop_any s inp n mb bs bc cs base m false L w hM (by omega) (by omega)).mono ?_
  rintro e w1 ⟨rfl, L1, hM1, hK1⟩
  go_wp2_with fail
  refine (cpop_any s inp n mb bs bc cs base _ false L1 w1 hM1 (by show 0 < (m.stk.take (m.stk.length - 1)).length; omega) (by show (m.stk.take (m.stk.length - 1)).length ≤ 100; omega)).mono ?_
  rintro e w2 ⟨rfl, L2, hM2, hK2⟩
  dsimp only at hM2
  rw [hp1] at hM2
  dsimp only
  rw [hp2]
  go_wp2_with fail
  refine (cpush_int s inp n mb bs bc cs base _ false L2 (Im.ari 5 (Im.snd m.stk) (Im.top m.stk)) _ _ hM2 (by show (m.stk.take (m.stk.length - 2)).length < 16; omega) (by unfold Im.ari; rw [if_neg (by omega), if_pos rfl]; omega)).mono ?_
  rintro e w3 h3
  have he := h3.1
  have HP : Hid (CReck s inp n mb bs bc cs base m 5 L w w3 e) := creck_push (by omega) hK1 hK2 h3
  subst he
  clear h3 hM hM1 hM2 hK1 hK2
  go_wp2
  go_ret
  exact HP.out

set_option maxHeartbeats 3200000 in
set_option maxRecDepth 100000 in
theorem creckon_6 (s inp : ByteArray) (n mb bs bc cs base : Nat) (m : Im.St) (L : Nat → Value) (w : World) (hM : Mc s inp n mb bs bc cs base m false L w) (hl : 2 ≤ m.stk.length) (hl2 : m.stk.length ≤ 16) (hv : ∀ x, x ∈ m.stk → x < 256) :
    Calls Tryz.prog 74 #[.pointer (some ⟨mb, 0, none⟩), .int .u8 6] w fun e w' => CReck s inp n mb bs bc cs base m 6 L w w' e := by
  have hb256 : Im.top m.stk < 256 := hv _ (Im.top_mem m.stk (by omega))
  have ha256 : Im.snd m.stk < 256 := hv _ (Im.snd_mem m.stk hl)
  obtain ⟨hp1, hp2⟩ := pop2_stk m.stk hl
  have hlt1 : (m.stk.take (m.stk.length - 1)).length = m.stk.length - 1 := by rw [List.length_take]; omega
  have hlt2 : (m.stk.take (m.stk.length - 2)).length = m.stk.length - 2 := by rw [List.length_take]; omega
  go_enter Tryz.func74, Tryz.ntmps74
  go_wp2_with fail
  refine (cpop_any s inp n mb bs bc cs base m false L w hM (by omega) (by omega)).mono ?_
  rintro e w1 ⟨rfl, L1, hM1, hK1⟩
  go_wp2_with fail
  refine (cpop_any s inp n mb bs bc cs base _ false L1 w1 hM1 (by show 0 < (m.stk.take (m.stk.length - 1)).length; omega) (by show (m.stk.take (m.stk.length - 1)).length ≤ 100; omega)).mono ?_
  rintro e w2 ⟨rfl, L2, hM2, hK2⟩
  dsimp only at hM2
  rw [hp1] at hM2
  dsimp only
  rw [hp2]
  go_wp2_with fail
  refine (cpush_int s inp n mb bs bc cs base _ false L2 (Im.ari 6 (Im.snd m.stk) (Im.top m.stk)) _ _ hM2 (by show (m.stk.take (m.stk.length - 2)).length < 16; omega) (by unfold Im.ari; rw [if_neg (by omega), if_neg (by omega), if_pos rfl]; rw [Int.natCast_emod, Int.natCast_mul]; rfl)).mono ?_
  rintro e w3 h3
  have he := h3.1
  have HP : Hid (CReck s inp n mb bs bc cs base m 6 L w w3 e) := creck_push (by omega) hK1 hK2 h3
  subst he
  clear h3 hM hM1 hM2 hK1 hK2
  go_wp2
  go_ret
  exact HP.out

set_option maxHeartbeats 3200000 in
set_option maxRecDepth 100000 in
theorem creckon_7 (s inp : ByteArray) (n mb bs bc cs base : Nat) (m : Im.St) (L : Nat → Value) (w : World) (hM : Mc s inp n mb bs bc cs base m false L w) (hl : 2 ≤ m.stk.length) (hl2 : m.stk.length ≤ 16) (hv : ∀ x, x ∈ m.stk → x < 256) (hz : Im.top m.stk ≠ 0) :
    Calls Tryz.prog 74 #[.pointer (some ⟨mb, 0, none⟩), .int .u8 7] w fun e w' => CReck s inp n mb bs bc cs base m 7 L w w' e := by
  have hb256 : Im.top m.stk < 256 := hv _ (Im.top_mem m.stk (by omega))
  have ha256 : Im.snd m.stk < 256 := hv _ (Im.snd_mem m.stk hl)
  obtain ⟨hp1, hp2⟩ := pop2_stk m.stk hl
  have hlt1 : (m.stk.take (m.stk.length - 1)).length = m.stk.length - 1 := by rw [List.length_take]; omega
  have hlt2 : (m.stk.take (m.stk.length - 2)).length = m.stk.length - 2 := by rw [List.length_take]; omega
  have hzb : ((Im.top m.stk : Int) == 0) = false := by rw [beq_eq_false_iff_ne]; omega
  have hdv : Im.snd m.stk / Im.top m.stk ≤ Im.snd m.stk := Nat.div_le_self _ _
  have hdn : (0 : Int) ≤ (Im.snd m.stk : Int) / (Im.top m.stk : Int) := Int.ediv_nonneg (by omega) (by omega)
  go_enter Tryz.func74, Tryz.ntmps74
  go_wp2_with fail
  refine (cpop_any s inp n mb bs bc cs base m false L w hM (by omega) (by omega)).mono ?_
  rintro e w1 ⟨rfl, L1, hM1, hK1⟩
  go_wp2_with fail
  refine (cpop_any s inp n mb bs bc cs base _ false L1 w1 hM1 (by show 0 < (m.stk.take (m.stk.length - 1)).length; omega) (by show (m.stk.take (m.stk.length - 1)).length ≤ 100; omega)).mono ?_
  rintro e w2 ⟨rfl, L2, hM2, hK2⟩
  dsimp only at hM2
  rw [hp1] at hM2
  dsimp only
  rw [hp2]
  go_wp2_with fail
  refine (cpush_int s inp n mb bs bc cs base _ false L2 (Im.ari 7 (Im.snd m.stk) (Im.top m.stk)) _ _ hM2 (by show (m.stk.take (m.stk.length - 2)).length < 16; omega) (by unfold Im.ari; rw [if_neg (by omega), if_neg (by omega), if_neg (by omega), if_neg (by omega), if_neg (by omega)]; first | rfl | omega)).mono ?_
  rintro e w3 h3
  have he := h3.1
  have HP : Hid (CReck s inp n mb bs bc cs base m 7 L w w3 e) := creck_push (by omega) hK1 hK2 h3
  subst he
  clear h3 hM hM1 hM2 hK1 hK2
  go_wp2
  go_ret
  exact HP.out

set_option maxHeartbeats 3200000 in
set_option maxRecDepth 100000 in
theorem creckon_8y (s inp : ByteArray) (n mb bs bc cs base : Nat) (m : Im.St) (L : Nat → Value) (w : World) (hM : Mc s inp n mb bs bc cs base m false L w) (hl : 2 ≤ m.stk.length) (hl2 : m.stk.length ≤ 16) (hv : ∀ x, x ∈ m.stk → x < 256) (hq : Im.snd m.stk = Im.top m.stk) :
    Calls Tryz.prog 74 #[.pointer (some ⟨mb, 0, none⟩), .int .u8 8] w fun e w' => CReck s inp n mb bs bc cs base m 8 L w w' e := by
  have hb256 : Im.top m.stk < 256 := hv _ (Im.top_mem m.stk (by omega))
  have ha256 : Im.snd m.stk < 256 := hv _ (Im.snd_mem m.stk hl)
  obtain ⟨hp1, hp2⟩ := pop2_stk m.stk hl
  have hlt1 : (m.stk.take (m.stk.length - 1)).length = m.stk.length - 1 := by rw [List.length_take]; omega
  have hlt2 : (m.stk.take (m.stk.length - 2)).length = m.stk.length - 2 := by rw [List.length_take]; omega
  have hqb : ((Im.snd m.stk : Int) == (Im.top m.stk : Int)) = true := by rw [beq_iff_eq]; omega
  have HQ : Hid (Im.snd m.stk = Im.top m.stk) := hq
  clear hq
  go_enter Tryz.func74, Tryz.ntmps74
  go_wp2_with fail
  refine (cpop_any s inp n mb bs bc cs base m false L w hM (by omega) (by omega)).mono ?_
  rintro e w1 ⟨rfl, L1, hM1, hK1⟩
  go_wp2_with fail
  refine (cpop_any s inp n mb bs bc cs base _ false L1 w1 hM1 (by show 0 < (m.stk.take (m.stk.length - 1)).length; omega) (by show (m.stk.take (m.stk.length - 1)).length ≤ 100; omega)).mono ?_
  rintro e w2 ⟨rfl, L2, hM2, hK2⟩
  dsimp only at hM2
  rw [hp1] at hM2
  dsimp only
  rw [hp2]
  go_wp2_with fail
  refine (cflag_any _ _).mono ?_
  rintro e w3 ⟨rfl, rfl⟩
  go_wp2_with fail
  refine (cpush_int s inp n mb bs bc cs base _ false L2 (Im.ari 8 (Im.snd m.stk) (Im.top m.stk)) _ _ hM2 (by show (m.stk.take (m.stk.length - 2)).length < 16; omega) (by unfold Im.ari; rw [if_neg (by omega), if_neg (by omega), if_neg (by omega), if_pos rfl, if_pos HQ.out]; first | rfl | simp)).mono ?_
  rintro e w3 h3
  have he := h3.1
  have HP : Hid (CReck s inp n mb bs bc cs base m 8 L w w3 e) := creck_push (by omega) hK1 hK2 h3
  subst he
  clear h3 hM hM1 hM2 hK1 hK2
  go_wp2
  go_ret
  exact HP.out

set_option maxHeartbeats 3200000 in
set_option maxRecDepth 100000 in
theorem creckon_8n (s inp : ByteArray) (n mb bs bc cs base : Nat) (m : Im.St) (L : Nat → Value) (w : World) (hM : Mc s inp n mb bs bc cs base m false L w) (hl : 2 ≤ m.stk.length) (hl2 : m.stk.length ≤ 16) (hv : ∀ x, x ∈ m.stk → x < 256) (hq : Im.snd m.stk ≠ Im.top m.stk) :
    Calls Tryz.prog 74 #[.pointer (some ⟨mb, 0, none⟩), .int .u8 8] w fun e w' => CReck s inp n mb bs bc cs base m 8 L w w' e := by
  have hb256 : Im.top m.stk < 256 := hv _ (Im.top_mem m.stk (by omega))
  have ha256 : Im.snd m.stk < 256 := hv _ (Im.snd_mem m.stk hl)
  obtain ⟨hp1, hp2⟩ := pop2_stk m.stk hl
  have hlt1 : (m.stk.take (m.stk.length - 1)).length = m.stk.length - 1 := by rw [List.length_take]; omega
  have hlt2 : (m.stk.take (m.stk.length - 2)).length = m.stk.length - 2 := by rw [List.length_take]; omega
  have hqb : ((Im.snd m.stk : Int) == (Im.top m.stk : Int)) = false := by rw [beq_eq_false_iff_ne]; omega
  have HQ : Hid (Im.snd m.stk ≠ Im.top m.stk) := hq
  clear hq
  go_enter Tryz.func74, Tryz.ntmps74
  go_wp2_with fail
  refine (cpop_any s inp n mb bs bc cs base m false L w hM (by omega) (by omega)).mono ?_
  rintro e w1 ⟨rfl, L1, hM1, hK1⟩
  go_wp2_with fail
  refine (cpop_any s inp n mb bs bc cs base _ false L1 w1 hM1 (by show 0 < (m.stk.take (m.stk.length - 1)).length; omega) (by show (m.stk.take (m.stk.length - 1)).length ≤ 100; omega)).mono ?_
  rintro e w2 ⟨rfl, L2, hM2, hK2⟩
  dsimp only at hM2
  rw [hp1] at hM2
  dsimp only
  rw [hp2]
  go_wp2_with fail
  refine (cflag_any _ _).mono ?_
  rintro e w3 ⟨rfl, rfl⟩
  go_wp2_with fail
  refine (cpush_int s inp n mb bs bc cs base _ false L2 (Im.ari 8 (Im.snd m.stk) (Im.top m.stk)) _ _ hM2 (by show (m.stk.take (m.stk.length - 2)).length < 16; omega) (by unfold Im.ari; rw [if_neg (by omega), if_neg (by omega), if_neg (by omega), if_pos rfl, if_neg HQ.out]; first | rfl | simp)).mono ?_
  rintro e w3 h3
  have he := h3.1
  have HP : Hid (CReck s inp n mb bs bc cs base m 8 L w w3 e) := creck_push (by omega) hK1 hK2 h3
  subst he
  clear h3 hM hM1 hM2 hK1 hK2
  go_wp2
  go_ret
  exact HP.out

set_option maxHeartbeats 3200000 in
set_option maxRecDepth 100000 in
theorem creckon_9y (s inp : ByteArray) (n mb bs bc cs base : Nat) (m : Im.St) (L : Nat → Value) (w : World) (hM : Mc s inp n mb bs bc cs base m false L w) (hl : 2 ≤ m.stk.length) (hl2 : m.stk.length ≤ 16) (hv : ∀ x, x ∈ m.stk → x < 256) (hq : Im.snd m.stk < Im.top m.stk) :
    Calls Tryz.prog 74 #[.pointer (some ⟨mb, 0, none⟩), .int .u8 9] w fun e w' => CReck s inp n mb bs bc cs base m 9 L w w' e := by
  have hb256 : Im.top m.stk < 256 := hv _ (Im.top_mem m.stk (by omega))
  have ha256 : Im.snd m.stk < 256 := hv _ (Im.snd_mem m.stk hl)
  obtain ⟨hp1, hp2⟩ := pop2_stk m.stk hl
  have hlt1 : (m.stk.take (m.stk.length - 1)).length = m.stk.length - 1 := by rw [List.length_take]; omega
  have hlt2 : (m.stk.take (m.stk.length - 2)).length = m.stk.length - 2 := by rw [List.length_take]; omega
  go_enter Tryz.func74, Tryz.ntmps74
  go_wp2_with fail
  refine (cpop_any s inp n mb bs bc cs base m false L w hM (by omega) (by omega)).mono ?_
  rintro e w1 ⟨rfl, L1, hM1, hK1⟩
  go_wp2_with fail
  refine (cpop_any s inp n mb bs bc cs base _ false L1 w1 hM1 (by show 0 < (m.stk.take (m.stk.length - 1)).length; omega) (by show (m.stk.take (m.stk.length - 1)).length ≤ 100; omega)).mono ?_
  rintro e w2 ⟨rfl, L2, hM2, hK2⟩
  dsimp only at hM2
  rw [hp1] at hM2
  dsimp only
  rw [hp2]
  go_wp2_with fail
  refine (cflag_any _ _).mono ?_
  rintro e w3 ⟨rfl, rfl⟩
  go_wp2_with fail
  refine (cpush_int s inp n mb bs bc cs base _ false L2 (Im.ari 9 (Im.snd m.stk) (Im.top m.stk)) _ _ hM2 (by show (m.stk.take (m.stk.length - 2)).length < 16; omega) (by unfold Im.ari; rw [if_neg (by omega), if_neg (by omega), if_neg (by omega), if_neg (by omega), if_pos rfl, if_pos hq]; first | rfl | simp)).mono ?_
  rintro e w3 h3
  have he := h3.1
  have HP : Hid (CReck s inp n mb bs bc cs base m 9 L w w3 e) := creck_push (by omega) hK1 hK2 h3
  subst he
  clear h3 hM hM1 hM2 hK1 hK2
  go_wp2
  go_ret
  exact HP.out

set_option maxHeartbeats 3200000 in
set_option maxRecDepth 100000 in
theorem creckon_9n (s inp : ByteArray) (n mb bs bc cs base : Nat) (m : Im.St) (L : Nat → Value) (w : World) (hM : Mc s inp n mb bs bc cs base m false L w) (hl : 2 ≤ m.stk.length) (hl2 : m.stk.length ≤ 16) (hv : ∀ x, x ∈ m.stk → x < 256) (hq : ¬ Im.snd m.stk < Im.top m.stk) :
    Calls Tryz.prog 74 #[.pointer (some ⟨mb, 0, none⟩), .int .u8 9] w fun e w' => CReck s inp n mb bs bc cs base m 9 L w w' e := by
  have hb256 : Im.top m.stk < 256 := hv _ (Im.top_mem m.stk (by omega))
  have ha256 : Im.snd m.stk < 256 := hv _ (Im.snd_mem m.stk hl)
  obtain ⟨hp1, hp2⟩ := pop2_stk m.stk hl
  have hlt1 : (m.stk.take (m.stk.length - 1)).length = m.stk.length - 1 := by rw [List.length_take]; omega
  have hlt2 : (m.stk.take (m.stk.length - 2)).length = m.stk.length - 2 := by rw [List.length_take]; omega
  go_enter Tryz.func74, Tryz.ntmps74
  go_wp2_with fail
  refine (cpop_any s inp n mb bs bc cs base m false L w hM (by omega) (by omega)).mono ?_
  rintro e w1 ⟨rfl, L1, hM1, hK1⟩
  go_wp2_with fail
  refine (cpop_any s inp n mb bs bc cs base _ false L1 w1 hM1 (by show 0 < (m.stk.take (m.stk.length - 1)).length; omega) (by show (m.stk.take (m.stk.length - 1)).length ≤ 100; omega)).mono ?_
  rintro e w2 ⟨rfl, L2, hM2, hK2⟩
  dsimp only at hM2
  rw [hp1] at hM2
  dsimp only
  rw [hp2]
  go_wp2_with fail
  refine (cflag_any _ _).mono ?_
  rintro e w3 ⟨rfl, rfl⟩
  go_wp2_with fail
  refine (cpush_int s inp n mb bs bc cs base _ false L2 (Im.ari 9 (Im.snd m.stk) (Im.top m.stk)) _ _ hM2 (by show (m.stk.take (m.stk.length - 2)).length < 16; omega) (by unfold Im.ari; rw [if_neg (by omega), if_neg (by omega), if_neg (by omega), if_neg (by omega), if_pos rfl, if_neg hq]; first | rfl | simp)).mono ?_
  rintro e w3 h3
  have he := h3.1
  have HP : Hid (CReck s inp n mb bs bc cs base m 9 L w w3 e) := creck_push (by omega) hK1 hK2 h3
  subst he
  clear h3 hM hM1 hM2 hK1 hK2
  go_wp2
  go_ret
  exact HP.out

set_option maxHeartbeats 3200000 in
set_option maxRecDepth 100000 in
theorem creckon_7z (s inp : ByteArray) (n mb bs bc cs base : Nat) (m : Im.St) (L : Nat → Value) (w : World) (hM : Mc s inp n mb bs bc cs base m false L w) (hl : 2 ≤ m.stk.length) (hl2 : m.stk.length ≤ 16) (hv : ∀ x, x ∈ m.stk → x < 256) (hz : Im.top m.stk = 0) :
    Calls Tryz.prog 74 #[.pointer (some ⟨mb, 0, none⟩), .int .u8 7] w fun e w' => CReck s inp n mb bs bc cs base m 7 L w w' e := by
  have hb256 : Im.top m.stk < 256 := hv _ (Im.top_mem m.stk (by omega))
  have ha256 : Im.snd m.stk < 256 := hv _ (Im.snd_mem m.stk hl)
  obtain ⟨hp1, hp2⟩ := pop2_stk m.stk hl
  have hlt1 : (m.stk.take (m.stk.length - 1)).length = m.stk.length - 1 := by rw [List.length_take]; omega
  have hlt2 : (m.stk.take (m.stk.length - 2)).length = m.stk.length - 2 := by rw [List.length_take]; omega
  have hzb : ((Im.top m.stk : Int) == 0) = true := by rw [beq_iff_eq]; omega
  go_enter Tryz.func74, Tryz.ntmps74
  go_wp2_with fail
  refine (cpop_any s inp n mb bs bc cs base m false L w hM (by omega) (by omega)).mono ?_
  rintro e w1 ⟨rfl, L1, hM1, hK1⟩
  go_wp2_with fail
  refine (cpop_any s inp n mb bs bc cs base _ false L1 w1 hM1 (by show 0 < (m.stk.take (m.stk.length - 1)).length; omega) (by show (m.stk.take (m.stk.length - 1)).length ≤ 100; omega)).mono ?_
  rintro e w2 ⟨rfl, L2, hM2, hK2⟩
  dsimp only at hM2
  rw [hp1] at hM2
  dsimp only
  rw [hp2]
  have HP : Hid (CReck s inp n mb bs bc cs base m 7 L w w2 (.returned (.int .i64 3))) := Or.inl ⟨rfl, hz, rfl, L2, hM2, hK1.trans hK2⟩
  clear hM hM1 hM2 hK1 hK2
  go_wp2
  go_ret
  exact HP.out

/-- reckon, whatever the op. -/
theorem creckon_any (s inp : ByteArray) (n mb bs bc cs base : Nat) (m : Im.St) (L : Nat → Value) (op : Nat) (w : World) (hM : Mc s inp n mb bs bc cs base m false L w) (hl : 2 ≤ m.stk.length) (hl2 : m.stk.length ≤ 16) (hv : ∀ x, x ∈ m.stk → x < 256) (hop : 4 ≤ op ∧ op ≤ 9) :
    Calls Tryz.prog 74 #[.pointer (some ⟨mb, 0, none⟩), .int .u8 (op : Nat)] w fun e w' => CReck s inp n mb bs bc cs base m op L w w' e := by
  rcases (show op = 4 ∨ op = 5 ∨ op = 6 ∨ op = 7 ∨ op = 8 ∨ op = 9 by omega) with h | h | h | h | h | h <;> subst h
  · exact creckon_4 s inp n mb bs bc cs base m L w hM hl hl2 hv
  · exact creckon_5 s inp n mb bs bc cs base m L w hM hl hl2 hv
  · exact creckon_6 s inp n mb bs bc cs base m L w hM hl hl2 hv
  · by_cases hz : Im.top m.stk = 0
    · exact creckon_7z s inp n mb bs bc cs base m L w hM hl hl2 hv hz
    · exact creckon_7 s inp n mb bs bc cs base m L w hM hl hl2 hv hz
  · by_cases hz : Im.snd m.stk = Im.top m.stk
    · exact creckon_8y s inp n mb bs bc cs base m L w hM hl hl2 hv hz
    · exact creckon_8n s inp n mb bs bc cs base m L w hM hl hl2 hv hz
  · by_cases hz : Im.snd m.stk < Im.top m.stk
    · exact creckon_9y s inp n mb bs bc cs base m L w hM hl hl2 hv hz
    · exact creckon_9n s inp n mb bs bc cs base m L w hM hl hl2 hv hz
end Go.Proofs.YtbmaiioecnmopaaGreatDoor

/-
  THE PROGRAM's SIDE (package triage): reach. By the verifier of the loop 'triage'.
-/
namespace Go.Proofs.YtbmaiioecnmopaaGreatDoor
open Go.RowKit

/-- how reach ends. -/
def CReach (s inp : ByteArray) (n mb bs bc cs base : Nat) (m' : Im.St) (kd : Int) (L : Nat → Value) (w w' : World) (e : Ending) : Prop :=
  e = .returned (.int .i64 kd) ∧ ∃ L', Mc s inp n mb bs bc cs base m' false L' w' ∧ Kp mb w L w' L'

set_option maxHeartbeats 3200000 in
set_option maxRecDepth 100000 in
theorem creach_wild (s inp : ByteArray) (n mb bs bc cs base : Nat) (m : Im.St) (L : Nat → Value) (op : Nat) (w : World) (hM : Mc s inp n mb bs bc cs base m false L w) (hl : 1 ≤ m.stk.length) (hl2 : m.stk.length ≤ 16) (hx : 16 ≤ Im.top m.stk) :
    Calls Tryz.prog 78 #[.pointer (some ⟨mb, 0, none⟩), .int .u8 (op : Nat)] w fun e w' => CReach s inp n mb bs bc cs base { m with stk := m.stk.take (m.stk.length - 1) } 4 L w w' e := by
  go_enter Tryz.func78, Tryz.ntmps78
  go_wp2_with fail
  refine (cpop_any s inp n mb bs bc cs base m false L w hM (by omega) (by omega)).mono ?_
  rintro e w1 ⟨rfl, L1, hM1, hK1⟩
  have HP : Hid (CReach s inp n mb bs bc cs base { m with stk := m.stk.take (m.stk.length - 1) } 4 L w w1 (.returned (.int .i64 4))) := ⟨rfl, L1, hM1, hK1⟩
  clear hM hM1 hK1
  go_wp2
  go_ret
  exact HP.out

set_option maxHeartbeats 3200000 in
set_option maxRecDepth 100000 in
theorem creach_load (s inp : ByteArray) (n mb bs bc cs base : Nat) (m : Im.St) (L : Nat → Value) (w : World) (hM : Mc s inp n mb bs bc cs base m false L w) (hl : 1 ≤ m.stk.length) (hl2 : m.stk.length ≤ 16) (hx : Im.top m.stk < 16) :
    Calls Tryz.prog 78 #[.pointer (some ⟨mb, 0, none⟩), .int .u8 15] w fun e w' => CReach s inp n mb bs bc cs base { m with stk := m.stk.take (m.stk.length - 1) ++ [m.cel (Im.top m.stk)] } 0 L w w' e := by
  have hlt1 : (m.stk.take (m.stk.length - 1)).length = m.stk.length - 1 := by rw [List.length_take]; omega
  go_enter Tryz.func78, Tryz.ntmps78
  go_wp2_with fail
  refine (cpop_any s inp n mb bs bc cs base m false L w hM (by omega) (by omega)).mono ?_
  rintro e w1 ⟨rfl, L1, hM1, hK1⟩
  have cx := hM1.bx.cell (7 + Im.top m.stk) (by omega)
  rw [hM1.lm.lc _ hx] at cx
  go_wp2_with fail
  refine (cpush_int s inp n mb bs bc cs base _ false L1 (m.cel (Im.top m.stk)) _ _ hM1 (by show (m.stk.take (m.stk.length - 1)).length < 16; omega) rfl).mono ?_
  rintro e w3 ⟨rfl, L3, h31, h32⟩
  have HP : Hid (CReach s inp n mb bs bc cs base { m with stk := m.stk.take (m.stk.length - 1) ++ [m.cel (Im.top m.stk)] } 0 L w w3 (.returned (.int .i64 0))) := ⟨rfl, L3, h31, hK1.trans h32⟩
  clear h31 h32 hM hM1 hK1
  go_wp2
  go_ret
  exact HP.out

set_option maxHeartbeats 3200000 in
set_option maxRecDepth 100000 in
theorem creach_store (s inp : ByteArray) (n mb bs bc cs base : Nat) (m : Im.St) (L : Nat → Value) (w : World) (hM : Mc s inp n mb bs bc cs base m false L w) (hl : 2 ≤ m.stk.length) (hl2 : m.stk.length ≤ 16) (hx : Im.top m.stk < 16) :
    Calls Tryz.prog 78 #[.pointer (some ⟨mb, 0, none⟩), .int .u8 16] w fun e w' => CReach s inp n mb bs bc cs base { m with stk := m.stk.take (m.stk.length - 2), cel := Im.upc m.cel (Im.top m.stk) (Im.snd m.stk) } 0 L w w' e := by
  have hlt1 : (m.stk.take (m.stk.length - 1)).length = m.stk.length - 1 := by rw [List.length_take]; omega
  obtain ⟨hp1, hp2⟩ := pop2_stk m.stk hl
  go_enter Tryz.func78, Tryz.ntmps78
  go_wp2_with fail
  refine (cpop_any s inp n mb bs bc cs base m false L w hM (by omega) (by omega)).mono ?_
  rintro e w1 ⟨rfl, L1, hM1, hK1⟩
  have HM1 : Hid (Mc s inp n mb bs bc cs base { m with stk := m.stk.take (m.stk.length - 1) } false L1 w1) := hM1
  have HK1 : Hid (Kp mb w L w1 L1) := hK1
  clear hM hM1 hK1
  go_wp2_with fail
  go_region_with (go_at_call 72; refine (cpop_any s inp n mb bs bc cs base { m with stk := m.stk.take (m.stk.length - 1) } false L1 _ ?_ ?_ ?_).mono ?_; exact HM1.out.drewN _; (show 0 < (m.stk.take (m.stk.length - 1)).length; omega); (show (m.stk.take (m.stk.length - 1)).length ≤ 100; omega); rintro e w2 ⟨rfl, L2, hM2, hK2⟩; have cx := hM2.bx.cell (7 + Im.top m.stk) (by omega); rw [hM2.lm.lc _ hx] at cx; have zx := hM2.bx.frz (7 + Im.top m.stk); dsimp only; rw [hp2])
  all_goals
    rw [hp1] at hM2
    have HP : Hid (CReach s inp n mb bs bc cs base { m with stk := m.stk.take (m.stk.length - 2), cel := Im.upc m.cel (Im.top m.stk) (Im.snd m.stk) } 0 L w (w2.setCell ⟨mb, 7 + Im.top m.stk, none⟩ (.int .u8 (Im.snd m.stk : Nat))) (.returned (.int .i64 0))) :=
      ⟨rfl, _, hM2.set (7 + Im.top m.stk) _ (by omega) (by omega) (by omega) (hM2.lm.setCel _ _ hx) rfl rfl, HK1.out.trans (((Kp.refl mb w1 L1).drewN 1).trans (hK2.set _ _ (by omega) (by omega)))⟩
    clear hM2 hK2 cx zx
    go_wp2
    go_ret
    exact HP.out
end Go.Proofs.YtbmaiioecnmopaaGreatDoor

/-
  THE PROGRAM's SIDE (package triage): step: what it ends in; TRAP. By the verifier of the loop 'triage'.
-/
namespace Go.Proofs.YtbmaiioecnmopaaGreatDoor
open Go.RowKit

/-- how a step ends. -/
def CStep (s inp : ByteArray) (n mb bs bc cs base : Nat) (m : Im.St) (w w' : World) (e : Ending) : Prop :=
  Kx base mb w w' ∧
  (((Im.stepP s inp m).2 = 0 ∧ e = .returned (.int .i64 0) ∧ ∃ L', Mc s inp n mb bs bc cs base (Im.stepP s inp m).1 false L' w') ∨
   ((Im.stepP s inp m).2 = 10 ∧ e = .returned (.int .i64 0) ∧ ∃ L', Mc s inp n mb bs bc cs base m true L' w') ∨
   ((Im.stepP s inp m).2 ≠ 0 ∧ (Im.stepP s inp m).2 ≠ 10 ∧ e = .returned (.int .i64 ((Im.stepP s inp m).2 : Nat)) ∧ ∃ m' L', Mc s inp n mb bs bc cs base m' false L' w' ∧ m'.fn = m.fn ∧ m'.at_ = m.at_ ∧ m'.cal = m.cal ∧ m'.edg = m.edg))

/-- what holds of the state ahead of a step. -/
structure Iv (s inp : ByteArray) (n : Nat) (m : Im.St) : Prop where
  hs : s.size ≤ 200
  hin : inp.size ≤ 24
  n6 : n ≤ 6
  hf : m.fn < n
  hD : m.at_ ∈ allD s n
  ha : m.at_ < s.size
  hz : m.at_ + Im.sz (Im.bt s m.at_) ≤ s.size
  h1 : 1 ≤ Im.sz (Im.bt s m.at_)
  hl : m.stk.length ≤ 16
  hv : ∀ x, x ∈ m.stk → x < 256
  hc : ∀ i, m.cel i < 256
  hcl : m.cal.length ≤ 8
  hcv : ∀ c, c ∈ m.cal → c.2 ∈ allD s n ∧ c.2 < s.size ∧ Im.bt s c.2 = 12
  hst : ∀ f, f < n → Im.st s f ≤ 200
  hcall : Im.bt s m.at_ = 12 → Im.bt s (m.at_ + 1) < n
theorem iv_of (s inp : ByteArray) (n : Nat) (m : Im.St) (ho : Im.Okay s n) (hi : inp.size ≤ 24) (hg : Im.Good s inp n m) : Iv s inp n m := by
  have hm := Im.fn_mem s m.fn m.at_ hg.ha
  have hst := ho.st m.fn hg.hf
  exact ⟨ho.hs, hi, ho.n6, hg.hf, (allD_mem s n m.at_).2 ⟨m.fn, hg.hf, hg.ha⟩, by omega, by omega, hm.2.2.2, hg.hl, hg.hv, hg.hc, hg.hcl, fun c hc => by
    obtain ⟨h1, h2, h5⟩ := hg.hcv c hc
    have h3 := Im.fn_mem s c.1 c.2 h2
    have h4 := ho.st c.1 h1
    exact ⟨(allD_mem s n c.2).2 ⟨c.1, h1, h2⟩, by omega, h5⟩, fun f hf => by have := ho.st f hf; have := ho.hs; omega, fun h => ho.call m.fn m.at_ hg.hf hg.ha h⟩

theorem cst_fault {s inp : ByteArray} {n mb bs bc cs base kd : Nat} {m m' : Im.St} {L : Nat → Value} {w w' : World} (hS : Im.stepP s inp m = (m, kd)) (h0 : kd ≠ 0) (h10 : kd ≠ 10) (hK : Kx base mb w w') (hM : Mc s inp n mb bs bc cs base m' false L w') (h1 : m'.fn = m.fn) (h2 : m'.at_ = m.at_) (h3 : m'.cal = m.cal) (h4 : m'.edg = m.edg) :
    CStep s inp n mb bs bc cs base m w w' (.returned (.int .i64 (kd : Nat))) :=
  ⟨hK, Or.inr (Or.inr ⟨by rw [hS]; exact h0, by rw [hS]; exact h10, by rw [hS], m', L, hM, h1, h2, h3, h4⟩)⟩
theorem cst_site {s inp : ByteArray} {n mb bs bc cs base : Nat} {m m' m2 : Im.St} {L : Nat → Value} {w w2 : World} {F A : Nat} {x : Int} (hS : Im.stepP s inp m = (m', 0)) (hK : Kx base mb w w2) (hM : Mc s inp n mb bs bc cs base m2 false L w2) (hm : m' = { m2 with fn := F, at_ := A }) (hx : x = (A : Int)) :
    CStep s inp n mb bs bc cs base m w ((w2.setCell ⟨mb, 0, none⟩ (.int .i64 (F : Nat))).setCell ⟨mb, 1, none⟩ (.int .i64 x)) (.returned (.int .i64 0)) := by
  subst hx
  have h1 := hM.set 0 (.int .i64 (F : Nat)) (by omega) (by omega) (by omega) (hM.lm.setFn F) rfl rfl
  have h2 := h1.set 1 (.int .i64 (A : Nat)) (by omega) (by omega) (by omega) (h1.lm.setAt A) rfl rfl
  exact ⟨(hK.set 0 _).set 1 _, Or.inl ⟨by rw [hS], rfl, _, by rw [hS, hm]; exact h2⟩⟩
theorem cst_done {s inp : ByteArray} {n mb bs bc cs base : Nat} {m : Im.St} {L : Nat → Value} {w w2 : World} (hS : Im.stepP s inp m = (m, 10)) (hK : Kx base mb w w2) (hM : Mc s inp n mb bs bc cs base m true L w2) :
    CStep s inp n mb bs bc cs base m w ((w2.setCell ⟨mb, 0, none⟩ (.int .i64 (m.fn : Nat))).setCell ⟨mb, 1, none⟩ (.int .i64 (m.at_ : Nat))) (.returned (.int .i64 0)) := by
  have h1 := hM.set 0 (.int .i64 (m.fn : Nat)) (by omega) (by omega) (by omega) (hM.lm.setFn m.fn) rfl rfl
  have h2 := h1.set 1 (.int .i64 (m.at_ : Nat)) (by omega) (by omega) (by omega) (h1.lm.setAt m.at_) rfl rfl
  exact ⟨(hK.set 0 _).set 1 _, Or.inr (Or.inl ⟨by rw [hS], rfl, _, h2⟩)⟩

/-- a local block, behind a call. -/
theorem loc_kept {s inp : ByteArray} {n mb bs bc cs base : Nat} {m : Im.St} {en : Bool} {w w1 w2 : World} {L L2 : Nat → Value} {b : Nat} {o : Obj} (hM : Mc s inp n mb bs bc cs base m en L w) (hb : w.heap.size ≤ b) (h1 : w1.heap[b]? = some o) (hK : Kp mb w1 L w2 L2) : w2.heap[b]? = some o := by
  have hbm : b ≠ mb := by have := hM.bx.lt; omega
  rw [hK.block b (Array.getElem?_eq_some_iff.1 h1).1 hbm (row_ne hM.rs hb) (row_ne hM.rc hb)]
  exact h1

set_option maxHeartbeats 6400000 in
set_option maxRecDepth 100000 in
theorem cstep_17 (s inp : ByteArray) (n mb bs bc cs base : Nat) (m : Im.St) (L : Nat → Value) (w : World) (hM : Mc s inp n mb bs bc cs base m false L w) (hI : Iv s inp n m) (hop : Im.bt s m.at_ = 17) :
    Calls Tryz.prog 47 #[.pointer (some ⟨mb, 0, none⟩)] w fun e w' => CStep s inp n mb bs bc cs base m w w' e := by
  have HS : Hid (Im.stepP s inp m = (m, 5)) := by
    show Im.stepP s inp m = _
    unfold Im.stepP
    have hl := hI.hl
    rw [hop, if_neg (by simp [Im.tk]), if_neg (by simp [Im.tk, Im.psh]; omega)]
    simp
  have k0 := hM.bx.cell 0 (by omega)
  have k1 := hM.bx.cell 1 (by omega)
  have k3 := hM.bx.cell 3 (by omega)
  have k5 := hM.bx.cell 5 (by omega)
  rw [hM.lm.l0] at k0
  rw [hM.lm.l1] at k1
  rw [hM.lm.l3] at k3
  obtain ⟨a5, cap5, hv5, -, -, -⟩ := owns_shape hM.rs
  rw [hv5] at k5
  have d0 := hM.mf.c0 m.at_ hI.hD
  have d1 := hM.mf.c1 m.at_ hI.hD
  have d2 := hM.mf.c2 m.at_ hI.hD
  have d3 := hM.mf.c3 m.at_ hI.hD
  rw [hop] at d0 d1 d2
  have ha := hI.ha
  have hs := hI.hs
  have hl := hI.hl
  have hlt := hM.bx.lt
  have hltc : bc < w.heap.size := by have := hM.mf.hbc; have := hM.mf.hba; omega
  have HM : Hid (Mc s inp n mb bs bc cs base m false L w) := hM
  have HI : Hid (Iv s inp n m) := hI
  clear hM hI hv5
  obtain ⟨f, a, pos, stk, cel, cal, edg⟩ := m
  dsimp only at *
  generalize ar s a = g3 at *
  rw [show Im.tk 17 = 0 from rfl] at d0
  rw [show Im.sz 17 = 1 from rfl] at d1
  go_enter Tryz.func47, Tryz.ntmps47
  go_wp2_with fail
  go_region
  go_wp2_with fail
  go_quiet (fail)
  go_wp2_with fail
  refine (cbehind_any s inp n mb bs bc cs base ⟨f, a, pos, stk, cel, cal, edg⟩ false L f a _ ((HM.out.alloc _).drewN _) HI.out.hD ha hs).mono ?_
  rintro e w1 ⟨rfl, hb1⟩
  rw [hop, show Im.sz 17 = 1 from rfl]
  have hnow : w1.heap[w.heap.size]? = some (.cells #[.int .i64 0, .int .i64 1, .int .u8 17, .int .u8 (g3 : Nat)] 162 (0, 0)) := (hb1.block w.heap.size (by simp)).trans (heap_new w _)
  have n2 : w1.cell? ⟨w.heap.size, 2, none⟩ = some (.int .u8 17) := cell_of_heap hnow rfl
  have HK1 : Hid (Kp mb w L w1 L) := (((Kp.refl mb w L).alloc _).drewN _).below hb1
  have HM1 : Hid (Mc s inp n mb bs bc cs base ⟨f, a, pos, stk, cel, cal, edg⟩ false L w1) := (((HM.out.alloc _).drewN _).below hb1).1
  have hw1 : w.heap.size < w1.heap.size := by have := hb1.size; simp at this; omega
  clear hb1 hnow k0 k1 k3 k5 d0 d1 d2 d3
  have HP : Hid (∀ o, CStep s inp n mb bs bc cs base ⟨f, a, pos, stk, cel, cal, edg⟩ w (w1.alloc o) (.returned (.int .i64 5))) := fun o =>
    cst_fault HS.out (by decide) (by decide) ((HK1.out.alloc o).kx HM.out) (HM1.out.alloc o) rfl rfl rfl rfl
  go_wp2_with fail
  go_ret
  exact HP.out _
end Go.Proofs.YtbmaiioecnmopaaGreatDoor
