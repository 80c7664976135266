/-
  THE PROGRAM's SIDE (package triage): functions, begins, checkTargets. By the verifier of the loop 'triage'.
-/
import Derived.Test.YthljaemhgkepoaaDoorCodeB
namespace Go.Proofs.YthljaemhgkepoaaDoor
open Go.RowKit

def memB (L : List Nat) (k : Nat) : Bool := decide (k ∈ L)
theorem memB_true {L : List Nat} {k : Nat} (h : k ∈ L) : memB L k = true := by simp [memB, h]
theorem memB_false {L : List Nat} {k : Nat} (h : k ∉ L) : memB L k = false := by simp [memB, h]

/-- of the places between p and q those that are filled in are L's. -/
structure Has (s : ByteArray) (p q : Nat) (D L : List Nat) : Prop where
  iff : ∀ i, p ≤ i → i < q → (i ∈ D ↔ i ∈ L)
  inn : ∀ i, i ∈ L → p ≤ i ∧ i < q ∧ i + Im.sz (Im.bt s i) ≤ q ∧ 1 ≤ Im.sz (Im.bt s i)

set_option maxHeartbeats 400000 in
theorem functions_any (s : ByteArray) (n bp bs bc cs : Nat) (D : List Nat) (w : World) (hn : n ≤ 6) (hM : Mem s n bp bs bc cs D w) :
    Calls Tryd.prog 42 #[.pointer (some ⟨bp, 0, none⟩)] w fun e w' => e = .returned (.int .i64 n) ∧ w = w' := by
  have m1 := hM.starts
  go_enter Tryd.func42, Tryd.ntmps42
  go_wp2
  go_ret
  exact ⟨ret_int (by simp), rfl⟩

set_option maxHeartbeats 800000 in
theorem begins_any (s : ByteArray) (n f m bp bs bc cs p q : Nat) (D L : List Nat) (w : World) (hs : s.size ≤ 200) (hn : n ≤ 6) (hf : f < n) (hm : m < 256)
    (hp : Im.st s f = p) (hq : Im.st s (f + 1) = q) (hqs : q ≤ s.size) (hpq : p ≤ q) (hH : Has s p q D L) (hM : Mem s n bp bs bc cs D w) :
    Calls Tryd.prog 51 #[.pointer (some ⟨bp, 0, none⟩), .int .i64 f, .int .i64 m] w fun e w' => e = .returned (.bool (memB L (p + m))) ∧ w = w' := by
  have m1 := hM.starts
  have m2 := hM.st f (by omega)
  have m3 := hM.st (f + 1) (by omega)
  have m6 := hM.code
  rw [hp] at m2
  rw [hq] at m3
  clear hp hq
  by_cases hlt : p + m < q
  · have c1 := hM.c1 (p + m) (by omega)
    by_cases hin : p + m ∈ L
    · rw [if_pos ((hH.iff _ (by omega) hlt).2 hin)] at c1
      have hsz := (hH.inn _ hin).2.2.2
      have hsz2 := Im.sz_le (Im.bt s (p + m))
      have HE := memB_true hin
      generalize Im.sz (Im.bt s (p + m)) = z at *
      have HEE : Hid (memB L (p + m) = true) := HE
      clear HE hin hM hH
      go_enter Tryd.func51, Tryd.ntmps51
      go_wp2
      go_ret
      exact ⟨ret_bool (by rw [HEE.out]; simp; omega), rfl⟩
    · rw [if_neg (fun h => hin ((hH.iff _ (by omega) hlt).1 h))] at c1
      have HE := memB_false hin
      have HEE : Hid (memB L (p + m) = false) := HE
      clear HE hin hM hH
      go_enter Tryd.func51, Tryd.ntmps51
      go_wp2
      go_ret
      exact ⟨ret_bool (by rw [HEE.out]), rfl⟩
  · have HEE : Hid (memB L (p + m) = false) := memB_false (fun h => by have := hH.inn _ h; omega)
    have hd : decide ((p : Int) + (m : Int) < (q : Int)) = false := by simp; omega
    clear hM hH
    go_enter Tryd.func51, Tryd.ntmps51
    go_wp2
    go_ret
    exact ⟨ret_bool (by rw [HEE.out]), rfl⟩

/-- how checkTargets ends. -/
def TgtPost (o : Option Nat) (c : Int) (w w' : World) (e : Ending) : Prop :=
  (o = none ∧ e = .returned .nilIface ∧ Below w.heap.size w w') ∨ (∃ p er, o = some p ∧ e = .returned er ∧ Flawed w.heap.size w' er c p ∧ Below w.heap.size w w')

theorem tgt_hit {o : Option Nat} {k : Int} {c z : Nat} {w w1 : World} (hE : o = some c) (hb : Below w.heap.size w w1) (hz : w1.heap.size = z) :
    TgtPost o k w (w1.alloc (.cells #[.int .i64 k, .int .i64 c] 37)) (.returned (.iface 32 (.pointer (some ⟨z, 0, none⟩)))) := by
  subst hz
  exact Or.inr ⟨c, _, hE, rfl, flawed_in hb.size k c, hb.alloc hb.size _⟩
theorem jmp_cons_hit (s : ByteArray) (p n c : Nat) (L l : List Nat) (h : Im.badJ s p n L c = true) : Im.jmp s p n L (c :: l) = some c := by
  unfold Im.jmp; simp [h]
theorem jmp_cons_miss (s : ByteArray) (p n c : Nat) (L l : List Nat) (h : Im.badJ s p n L c = false) : Im.jmp s p n L (c :: l) = Im.jmp s p n L l := by
  unfold Im.jmp; simp [h]
theorem quiet_same2 {P : Program} {f : FuncId} {args : Array Value} {w : World} {n : Nat} {v : Value}
    (h : Calls P f args (w.drewN n) fun e w' => e = .returned v ∧ w.drewN n = w') : Calls P f args (w.drewN n) fun e w'' => e = .returned v ∧ ∃ m, w'' = w.drewN m := quiet_same h

set_option maxHeartbeats 4000000 in
set_option maxRecDepth 100000 in
theorem targets_any (s : ByteArray) (n f bp bs bc cs p q : Nat) (D L : List Nat) (w : World) (hs : s.size ≤ 200) (hn : n ≤ 6) (hf : f < n)
    (hp : Im.st s f = p) (hq : Im.st s (f + 1) = q) (hqs : q ≤ s.size) (hpq : p ≤ q) (hL : Im.run s q p = (L, none)) (hH : Has s p q D L) (hM : Mem s n bp bs bc cs D w) :
    Calls Tryd.prog 40 #[.pointer (some ⟨bp, 0, none⟩), .int .i64 f] w fun e w' => TgtPost (Im.jmp s p n L L) 4 w w' e := by
  have m1 := hM.starts
  have m2 := hM.st f (by omega)
  have HP : Hid (Im.st s f = p) := hp
  have HQ : Hid (Im.st s (f + 1) = q) := hq
  rw [hp] at m2
  have HR0 : Hid (Im.jmp s p n L L = Im.jmp s p n L (Im.run s q p).1) := by rw [hL]; rfl
  have HN0 : Hid ((Im.run s q p).2 = none) := by rw [hL]; rfl
  have HI0 : Hid (∀ x, x ∈ (Im.run s q p).1 → x ∈ L) := by rw [hL]; exact fun x h => h
  clear hp hq hL
  go_enter Tryd.func40, Tryd.ntmps40
  go_wp2
  go_loopw [5] (fun i wr => ∃ (c : Nat), i = .int .i64 c ∧ p ≤ c ∧ c ≤ q ∧ Hid (Im.jmp s p n L L = Im.jmp s p n L (Im.run s q c).1) ∧ Hid ((Im.run s q c).2 = none) ∧ Hid (∀ x, x ∈ (Im.run s q c).1 → x ∈ L) ∧ Below w.heap.size w wr)
    (fun i _ => q - (intOf i).toNat)
  case atStart => exact ⟨_, rfl, Nat.le_refl _, hpq, HR0, HN0, HI0, Below.refl _ _⟩
  case round =>
    obtain ⟨c, rfl, hpc, hcq, HR, HN, HI, hbl⟩ := hrel
    have hMr := hM.below hbl
    have m1r := hMr.starts
    have m3r := hMr.st (f + 1) (by omega)
    rw [HQ.out] at m3r
    have m6 := hMr.code
    have hltp := hMr.ltp
    have hltc := hMr.ltc
    have hlts := hMr.lts
    by_cases hlt : c < q
    · have hcs : c < s.size := by omega
      have hnb : ¬ (Im.sz (Im.bt s c) = 0 ∨ q < c + Im.sz (Im.bt s c)) := by
        intro hb
        have h := HN.out
        rw [Im.run_bad s q c hlt hb] at h
        simp at h
      have hst := Im.run_step s q c hlt hnb
      have HSTEP : Hid (Im.run s q c = (c :: (Im.run s q (c + Im.sz (Im.bt s c))).1, (Im.run s q (c + Im.sz (Im.bt s c))).2)) := hst
      have hcL : c ∈ L := HI.out c (by rw [HSTEP.out]; simp)
      have hcD : c ∈ D := (hH.iff c hpc hlt).2 hcL
      have q0 := hMr.c0 c hcs
      have q1 := hMr.c1 c hcs
      have q2 := hMr.c2 c hcs
      have q3 := hMr.c3 c hcs
      rw [if_pos hcD] at q0 q1 q2 q3
      have HN2 : Hid ((Im.run s q (c + Im.sz (Im.bt s c))).2 = none) := by have h := HN.out; rw [HSTEP.out] at h; exact h
      have HI2 : Hid (∀ x, x ∈ (Im.run s q (c + Im.sz (Im.bt s c))).1 → x ∈ L) := fun x hx => HI.out x (by rw [HSTEP.out]; exact List.mem_cons_of_mem _ hx)
      have HHit : Hid (Im.badJ s p n L c = true → Im.jmp s p n L L = some c) := fun h => by rw [HR.out, HSTEP.out]; exact jmp_cons_hit _ _ _ _ _ _ h
      have HMis : Hid (Im.badJ s p n L c = false → Im.jmp s p n L L = Im.jmp s p n L (Im.run s q (c + Im.sz (Im.bt s c))).1) := fun h => by rw [HR.out, HSTEP.out]; exact jmp_cons_miss _ _ _ _ _ _ h
      have hsz2 := Im.sz_le (Im.bt s c)
      have hop256 := Im.bt_lt s c
      have HAR : Hid (Im.sz (Im.bt s c) = 2 → ar s c = Im.bt s (c + 1)) := fun h => by unfold ar; rw [if_pos h]
      have har256 : ar s c < 256 := by unfold ar; split; exact Im.bt_lt _ _; omega
      obtain ⟨op, HOP⟩ : ∃ op, Hid (Im.bt s c = op) := ⟨_, rfl⟩
      obtain ⟨a, HA⟩ : ∃ a, Hid (ar s c = a) := ⟨_, rfl⟩
      rw [HOP.out] at q0 q1 q2 HN2 HI2 HMis hsz2 hop256 hnb HAR
      rw [HA.out] at q3 HAR har256
      have hszp : 1 ≤ Im.sz op := by omega
      have hle : c + Im.sz op ≤ q := by omega
      clear HR HN HI hst HSTEP hcL hcD hnb
      have HMB : Hid (Below w.heap.size w wr) := hbl
      by_cases h12 : op = 12
      · have e12 : ((op : Int) == 12) = true := by simp [h12]
        have e10 : ((op : Int) == 10) = false := by simp [h12]
        have e11 : ((op : Int) == 11) = false := by simp [h12]
        have HA2 : Hid (Im.bt s (c + 1) = a) := (HAR.out (Im.sz_two_iff op (by omega))).symm
        have HM3 : Hid (∀ o nq, Mem s n bp bs bc cs D ((wr.alloc o).drewN nq)) := fun o nq => hMr.below (below_drewN ((Below.refl _ _).alloc (Nat.le_refl _) o) nq)
        by_cases hfn : a < n
        · have HE : Hid (Im.jmp s p n L L = Im.jmp s p n L (Im.run s q (c + Im.sz op)).1) := HMis.out (by simp [Im.badJ, HOP.out, HA2.out, h12]; omega)
          clear h12 HMis HHit HAR
          go_wp2
          go_quiet ((go_at_call 42; exact quiet_same (functions_any s n bp bs bc cs D _ hn (by exact HM3.out _ _))))
          go_wp2
          go_roundw
          case rel => exact ⟨c + Im.sz op, by go_num, by omega, by omega, HE, HN2, HI2, below_drewN (hbl.alloc hbl.size _) _⟩
          case measure => simp [intOf]; omega
        · have HE : Hid (Im.jmp s p n L L = some c) := HHit.out (by simp [Im.badJ, HOP.out, HA2.out, h12]; omega)
          clear h12 HMis HHit HAR
          go_wp2
          go_quiet ((go_at_call 42; exact quiet_same (functions_any s n bp bs bc cs D _ hn (by exact HM3.out _ _))))
          go_wp2
          go_ret
          exact tgt_hit (z := wr.heap.size + 1) HE.out (below_drewN (hbl.alloc hbl.size _) _) (by simp)
      · have e12 : ((op : Int) == 12) = false := by rw [beq_eq_false_iff_ne]; omega
        by_cases h1011 : op = 10 ∨ op = 11
        · have HA2 : Hid (Im.bt s (c + 1) = a) := (HAR.out (Im.sz_two_iff op (by omega))).symm
          have HM3 : Hid (∀ o, Mem s n bp bs bc cs D (wr.alloc o)) := fun o => hMr.below ((Below.refl _ _).alloc (Nat.le_refl _) o)
          have h10b : ((op : Int) == 10) = true ∨ (((op : Int) == 10) = false ∧ ((op : Int) == 11) = true) := by
            rcases h1011 with h | h
            · left; simp [h]
            · right; simp [h]
          by_cases hin : p + a ∈ L
          · have HE : Hid (Im.jmp s p n L L = Im.jmp s p n L (Im.run s q (c + Im.sz op)).1) := HMis.out (by simp [Im.badJ, HOP.out, HA2.out, hin]; omega)
            have em := memB_true hin
            clear h12 h1011 HMis HHit HAR hin
            rcases h10b with e10 | ⟨e10, e11⟩
            all_goals
              go_wp2_with (go_at_call 51; refine (begins_any s n f a bp bs bc cs p q D L _ hs hn hf har256 HP.out HQ.out hqs hpq hH (by exact HM3.out _)).mono ?_; rintro e w' ⟨rfl, rfl⟩)
              go_roundw
              case rel => exact ⟨c + Im.sz op, by go_num, by omega, by omega, HE, HN2, HI2, hbl.alloc hbl.size _⟩
              case measure => simp [intOf]; omega
          · have HE : Hid (Im.jmp s p n L L = some c) := HHit.out (by simp [Im.badJ, HOP.out, HA2.out, hin]; omega)
            have em := memB_false hin
            clear h12 h1011 HMis HHit HAR hin
            rcases h10b with e10 | ⟨e10, e11⟩
            all_goals
              go_wp2_with (go_at_call 51; refine (begins_any s n f a bp bs bc cs p q D L _ hs hn hf har256 HP.out HQ.out hqs hpq hH (by exact HM3.out _)).mono ?_; rintro e w' ⟨rfl, rfl⟩)
              go_ret
              exact tgt_hit (z := wr.heap.size + 1) HE.out (hbl.alloc hbl.size _) (by simp)
        · have e10 : ((op : Int) == 10) = false := by rw [beq_eq_false_iff_ne]; omega
          have e11 : ((op : Int) == 11) = false := by rw [beq_eq_false_iff_ne]; omega
          have HE : Hid (Im.jmp s p n L L = Im.jmp s p n L (Im.run s q (c + Im.sz op)).1) := HMis.out (by simp [Im.badJ, HOP.out]; omega)
          clear h12 h1011 HMis HHit HAR
          go_wp2
          go_roundw
          case rel => exact ⟨c + Im.sz op, by go_num, by omega, by omega, HE, HN2, HI2, hbl.alloc hbl.size _⟩
          case measure => simp [intOf]; omega
    · have HE : Hid (Im.jmp s p n L L = none) := by
        show Im.jmp s p n L L = none
        rw [HR.out, Im.run_end s q c hlt]; rfl
      go_wp2
      go_ret
      exact Or.inl ⟨HE.out, rfl, hbl⟩
end Go.Proofs.YthljaemhgkepoaaDoor
