/-
  THE PROGRAM's SIDE (package triage): checkLast. By the verifier of the loop 'triage'.
-/
import Derived.Test.YthljaemhgkepoaaDoorCodeC
namespace Go.Proofs.YthljaemhgkepoaaDoor
open Go.RowKit

theorem last_cons (c : Nat) (l : List Nat) (h : 0 < l.length) : Im.lastI (c :: l) = Im.lastI l := by
  unfold Im.lastI
  obtain ⟨m, hm⟩ : ∃ m, l.length = m + 1 := ⟨l.length - 1, by omega⟩
  simp [hm]

def fallO (s : ByteArray) (c : Nat) : Option Nat := if Im.bt s c = 0 ∨ Im.bt s c = 10 ∨ Im.bt s c = 17 then none else some c

set_option maxHeartbeats 4000000 in
set_option maxRecDepth 100000 in
theorem last_any (s : ByteArray) (n f bp bs bc cs p q : Nat) (D L : List Nat) (w : World) (hs : s.size ≤ 200) (hn : n ≤ 6) (hf : f < n)
    (hp : Im.st s f = p) (hq : Im.st s (f + 1) = q) (hqs : q ≤ s.size) (hpq : p < q) (hL : Im.run s q p = (L, none)) (hH : Has s p q D L) (hM : Mem s n bp bs bc cs D w) :
    Calls Tryd.prog 41 #[.pointer (some ⟨bp, 0, none⟩), .int .i64 f] w fun e w' => TgtPost (fallO s (Im.lastI L)) 5 w w' e := by
  have m1 := hM.starts
  have m2 := hM.st f (by omega)
  have HP : Hid (Im.st s f = p) := hp
  have HQ : Hid (Im.st s (f + 1) = q) := hq
  rw [hp] at m2
  have HR0 : Hid (Im.lastI L = Im.lastI (Im.run s q p).1) := by rw [hL]; rfl
  have HN0 : Hid ((Im.run s q p).2 = none) := by rw [hL]; rfl
  have HI0 : Hid (∀ x, x ∈ (Im.run s q p).1 → x ∈ L) := by rw [hL]; exact fun x h => h
  clear hp hq hL
  go_enter Tryd.func41, Tryd.ntmps41
  go_wp2
  go_loopw [5] (fun i wr => ∃ (c : Nat), i = .int .i64 c ∧ p ≤ c ∧ c < q ∧ Hid (Im.lastI L = Im.lastI (Im.run s q c).1) ∧ Hid ((Im.run s q c).2 = none) ∧ Hid (∀ x, x ∈ (Im.run s q c).1 → x ∈ L) ∧ Below w.heap.size w wr)
    (fun i _ => q - (intOf i).toNat)
  case atStart => exact ⟨_, rfl, Nat.le_refl _, hpq, HR0, HN0, HI0, Below.refl _ _⟩
  case round =>
    obtain ⟨c, rfl, hpc, hlt, HR, HN, HI, hbl⟩ := hrel
    have hMr := hM.below hbl
    have m1r := hMr.starts
    have m3r := hMr.st (f + 1) (by omega)
    rw [HQ.out] at m3r
    have m6 := hMr.code
    have hcs : c < s.size := by omega
    have hnb : ¬ (Im.sz (Im.bt s c) = 0 ∨ q < c + Im.sz (Im.bt s c)) := by
      intro hb
      have h := HN.out
      rw [Im.run_bad s q c hlt hb] at h
      simp at h
    have hst := Im.run_step s q c hlt hnb
    have HSTEP : Hid (Im.run s q c = (c :: (Im.run s q (c + Im.sz (Im.bt s c))).1, (Im.run s q (c + Im.sz (Im.bt s c))).2)) := hst
    have hcL : c ∈ L := HI.out c (by rw [HSTEP.out]; simp)
    have hcD : c ∈ D := (hH.iff c hpc hlt).2 hcL
    have q1 := hMr.c1 c hcs
    have q2 := hMr.c2 c hcs
    rw [if_pos hcD] at q1 q2
    have HN2 : Hid ((Im.run s q (c + Im.sz (Im.bt s c))).2 = none) := by have h := HN.out; rw [HSTEP.out] at h; exact h
    have HI2 : Hid (∀ x, x ∈ (Im.run s q (c + Im.sz (Im.bt s c))).1 → x ∈ L) := fun x hx => HI.out x (by rw [HSTEP.out]; exact List.mem_cons_of_mem _ hx)
    have hsz2 := Im.sz_le (Im.bt s c)
    have hop256 := Im.bt_lt s c
    have HLS : Hid (c + Im.sz (Im.bt s c) < q → Im.lastI L = Im.lastI (Im.run s q (c + Im.sz (Im.bt s c))).1) := fun h => by
      rw [HR.out, HSTEP.out]
      exact last_cons _ _ (Im.run_ne s q _ h HN2.out)
    have HLE : Hid (¬ c + Im.sz (Im.bt s c) < q → Im.lastI L = c) := fun h => by
      rw [HR.out, HSTEP.out, Im.run_end s q _ h]; rfl
    have HFO : Hid (fallO s c = if Im.bt s c = 0 ∨ Im.bt s c = 10 ∨ Im.bt s c = 17 then none else some c) := rfl
    obtain ⟨op, HOP⟩ : ∃ op, Hid (Im.bt s c = op) := ⟨_, rfl⟩
    rw [HOP.out] at q1 q2 HN2 HI2 hsz2 hop256 hnb HLS HLE HFO
    have hszp : 1 ≤ Im.sz op := by omega
    have hle : c + Im.sz op ≤ q := by omega
    clear HR HN HI hst HSTEP hcL hcD hnb
    by_cases hgo : c + Im.sz op < q
    · have HE : Hid (Im.lastI L = Im.lastI (Im.run s q (c + Im.sz op)).1) := HLS.out hgo
      clear HLS HLE
      go_wp2
      go_quiet (fail)
      go_wp2
      go_roundw
      case rel => exact ⟨c + Im.sz op, by go_num, by omega, by omega, HE, HN2, HI2, below_drewN hbl _⟩
      case measure => simp [intOf]; omega
    · have HE : Hid (Im.lastI L = c) := HLE.out hgo
      clear HLS HLE
      by_cases hgood : op = 0 ∨ op = 10 ∨ op = 17
      · have HO : Hid (fallO s (Im.lastI L) = none) := by rw [HE.out, HFO.out, if_pos hgood]; rfl
        have hcase : ((op : Int) == 0) = true ∨ (((op : Int) == 0) = false ∧ ((op : Int) == 10) = true) ∨ (((op : Int) == 0) = false ∧ ((op : Int) == 10) = false ∧ ((op : Int) == 17) = true) := by
          rcases hgood with h | h | h <;> simp [h]
        clear hgood
        rcases hcase with e0 | ⟨e0, e1⟩ | ⟨e0, e1, e2⟩
        all_goals
          go_wp2
          go_quiet (fail)
          go_wp2
          go_ret
          exact Or.inl ⟨HO.out, rfl, below_drewN hbl _⟩
      · have HO : Hid (fallO s (Im.lastI L) = some c) := by rw [HE.out, HFO.out, if_neg hgood]; rfl
        have e0 : ((op : Int) == 0) = false := by rw [beq_eq_false_iff_ne]; omega
        have e1 : ((op : Int) == 10) = false := by rw [beq_eq_false_iff_ne]; omega
        have e2 : ((op : Int) == 17) = false := by rw [beq_eq_false_iff_ne]; omega
        clear hgood
        go_wp2
        go_quiet (fail)
        go_wp2
        go_ret
        exact tgt_hit (z := wr.heap.size) HO.out (below_drewN hbl _) (by simp)
end Go.Proofs.YthljaemhgkepoaaDoor
