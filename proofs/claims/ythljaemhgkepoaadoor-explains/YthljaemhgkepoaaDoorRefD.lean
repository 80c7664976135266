/-
  THE DOCUMENT's SIDE (package triageref): jump. By the verifier of the loop 'triage'.
-/
import Derived.Test.YthljaemhgkepoaaDoorRefC
import Derived.Deep.QuietTactic
import Derived.BigQuiet
import Derived.WalkSmall
namespace Go.Proofs.YthljaemhgkepoaaDoor
open Go.RowKit

theorem quiet_same {P : Program} {f : FuncId} {args : Array Value} {w : World} {n : Nat} {v : Value}
    (h : Calls P f args (w.drewN n) fun e w' => e = .returned v ∧ w.drewN n = w') : Calls P f args (w.drewN n) fun e w'' => e = .returned v ∧ ∃ m, w'' = w.drewN m :=
  h.mono fun _ _ ⟨he, hm⟩ => ⟨he, n, hm.symm⟩

def nats (l : List Nat) : List Int := l.map fun (k : Nat) => (k : Int)
theorem mem_nats (L : List Nat) (n : Nat) : hasB (nats L) (n : Int) = decide (n ∈ L) := by
  unfold hasB
  rw [decide_eq_decide]; constructor
  · intro h; obtain ⟨a, ha, he⟩ := List.mem_map.1 h; rw [← Int.ofNat_inj.1 he]; exact ha
  · intro h; exact List.mem_map.2 ⟨n, h, rfl⟩
theorem getD_nats (L : List Nat) (k : Nat) : (nats L).getD k 0 = ((L[k]?.getD 0 : Nat) : Int) := by
  simp [nats, List.getElem?_map]; cases L[k]? <;> simp

set_option maxHeartbeats 1600000 in
set_option maxRecDepth 100000 in
theorem jump_any (s : ByteArray) (p q fn b cap : Nat) (L : List Nat) (w : World) (hs : s.size ≤ 200) (hp : p ≤ 1000) (_hfn : fn ≤ 1000) (hlen : L.length ≤ 1000)
    (hL : ∀ c, c ∈ L → c < s.size ∧ c + Im.sz (Im.bt s c) ≤ s.size)
    (hb : b < w.heap.size) (hc : ∀ k, k < L.length → w.cell? ⟨b, k, none⟩ = some (.int .i64 (L[k]?.getD 0 : Nat))) :
    Calls Tryd.prog 25 #[.string s, .agg #[.int .i64 p, .int .i64 q], .slice (some ⟨b, 0, none⟩) L.length cap, .int .i64 fn] w fun e w' =>
      e = .returned (.int .i64 (place (Im.jmp s p fn L L))) ∧ Below w.heap.size w w' := by
  have hbb : b < w.heap.size + 1 := by omega
  obtain ⟨len, hlenE⟩ : ∃ len, L.length = len := ⟨_, rfl⟩
  rw [hlenE] at hc hlen ⊢
  have HLEN : Hid (L.length = len) := hlenE
  clear hlenE
  have HL : Hid (∀ c, c ∈ L → c < s.size ∧ c + Im.sz (Im.bt s c) ≤ s.size) := hL
  have HC : Hid (∀ k, k < len → w.cell? ⟨b, k, none⟩ = some (.int .i64 (L[k]?.getD 0 : Nat))) := hc
  clear hL hc
  go_enter Tryd.func25, Tryd.ntmps25
  go_wp2
  go_loopw [9] (fun i wr => ∃ (k : Nat), i = .int .i64 k ∧ k ≤ len ∧ Hid (Im.jmp s p fn L L = Im.jmp s p fn L (L.drop k)) ∧ Below (w.heap.size + 1) (w.alloc (.cells #[.int .i64 p, .int .i64 q] 68)) wr)
    (fun i _ => len - (intOf i).toNat)
  case atStart => exact ⟨0, rfl, by omega, rfl, Below.refl _ _⟩
  case round =>
    obtain ⟨k, rfl, hk, HR, hbl⟩ := hrel
    have hfrom : wr.cell? ⟨w.heap.size, 0, none⟩ = some (.int .i64 p) := (hbl.cell (p := ⟨w.heap.size, 0, none⟩) (by simp)).trans (by simp)
    have hend : Below w.heap.size w wr := ((Below.refl w.heap.size w).alloc (Nat.le_refl _) _).trans (hbl.mono (by omega))
    by_cases hlt : k < len
    · have hkl : k < L.length := by rw [HLEN.out]; exact hlt
      have HM := HL.out (L[k]?.getD 0) (by rw [List.getElem?_eq_getElem hkl]; simp)
      have hcell : wr.cell? ⟨b, k, none⟩ = some (.int .i64 (L[k]?.getD 0 : Nat)) := (hend.cell (p := ⟨b, k, none⟩) hb).trans (HC.out k hlt)
      have HHit : Hid (Im.badJ s p fn L (L[k]?.getD 0) = true → Im.jmp s p fn L L = some (L[k]?.getD 0)) := fun h => HR.out.trans (Im.jmp_hit s p fn L k hkl h)
      have HMis : Hid (Im.badJ s p fn L (L[k]?.getD 0) = false → Im.jmp s p fn L L = Im.jmp s p fn L (L.drop (k + 1))) := fun h => HR.out.trans (Im.jmp_miss s p fn L k hkl h)
      clear hkl HR
      generalize L[k]?.getD 0 = c at *
      obtain ⟨hcs, hcz⟩ := HM
      have HCZ : Hid (c + Im.sz (Im.bt s c) ≤ s.size) := hcz
      have hop := Im.bt_eq s c hcs
      obtain ⟨op, HOP⟩ : ∃ op, Hid (Im.bt s c = op) := ⟨_, rfl⟩
      rw [HOP.out] at hop
      clear hcz
      have hop256 : op < 256 := by rw [← HOP.out]; exact Im.bt_lt s c
      by_cases h2 : op = 12 ∨ op = 10 ∨ op = 11
      · have hc1 : c + 1 < s.size := by
          have h := HCZ.out
          rw [HOP.out, Im.sz_two_iff op (by omega)] at h; omega
        have hn := Im.bt_eq s (c + 1) hc1
        obtain ⟨n, HN⟩ : ∃ n, Hid (Im.bt s (c + 1) = n) := ⟨_, rfl⟩
        rw [HN.out] at hn
        have hn256 : n < 256 := by rw [← HN.out]; exact Im.bt_lt s (c + 1)
        by_cases h12 : op = 12
        · have e12 : ((op : Int) == 12) = true := by simp [h12]
          have e10 : ((op : Int) == 10) = false := by simp [h12]
          have e11 : ((op : Int) == 11) = false := by simp [h12]
          by_cases hf : fn ≤ n
          · have HE : Hid (Im.jmp s p fn L L = some c) := HHit.out (by simp [Im.badJ, HOP.out, HN.out, h12, hf])
            clear h12 h2
            go_wp2
            go_ret
            exact ⟨ret_int (by rw [HE.out]; rfl), hend⟩
          · have HE : Hid (Im.jmp s p fn L L = Im.jmp s p fn L (L.drop (k + 1))) := HMis.out (by simp [Im.badJ, HOP.out, HN.out, h12]; omega)
            clear h12 h2
            go_wp2
            go_roundw
            case rel => exact ⟨k + 1, by go_num, by omega, HE, hbl⟩
            case measure => simp [intOf]; omega
        · have e12 : ((op : Int) == 12) = false := by rw [beq_eq_false_iff_ne]; omega
          have HCW : Hid (∀ nq k, k < len → (wr.drewN nq).cell? ⟨b, 0 + k, none⟩ = some (.int .i64 ((nats L).getD k 0))) := by
            intro nq k hk
            rw [getD_nats, Nat.zero_add]
            exact (hend.cell (p := ⟨b, k, none⟩) hb).trans (HC.out k hk)
          have HLN : Hid ((nats L).length = len) := (by simp [nats] : (nats L).length = L.length).trans HLEN.out
          have HIT : Hid (p + n ∉ L → Im.jmp s p fn L L = some c) := fun h => HHit.out (by simp [Im.badJ, HOP.out, HN.out, h]; omega)
          have MIS : Hid (p + n ∈ L → Im.jmp s p fn L L = Im.jmp s p fn L (L.drop (k + 1))) := fun h => HMis.out (by simp [Im.badJ, HOP.out, HN.out, h]; omega)
          have MEM : Hid (hasB (nats L) ((p : Int) + (n : Int)) = decide (p + n ∈ L)) := mem_nats L (p + n)
          clear HHit HMis HC HLEN HL HCZ HOP
          have h1011 : op = 10 ∨ op = 11 := by omega
          clear h12 h2
          have h10b : ((op : Int) == 10) = true ∨ (((op : Int) == 10) = false ∧ ((op : Int) == 11) = true) := by
            rcases h1011 with h | h
            · left; simp [h]
            · right; simp [h]
          clear h1011
          have HT : p + n ∈ L → hasB (nats L) ((p : Int) + (n : Int)) = true := fun h => by rw [MEM.out]; simpa using h
          have HF : p + n ∉ L → hasB (nats L) ((p : Int) + (n : Int)) = false := fun h => by rw [MEM.out]; simpa using h
          by_cases hm : p + n ∈ L
          · have em := HT hm
            have HE : Hid (Im.jmp s p fn L L = Im.jmp s p fn L (L.drop (k + 1))) := MIS.out hm
            clear HT HF hm MEM HIT MIS
            rcases h10b with e10 | ⟨e10, e11⟩
            all_goals
              go_wp2
              go_quiet ((go_at_call 36; exact quiet_same (has_any b 0 len cap (nats L) _ _ (by exact HLN.out) (by omega) (by exact HCW.out _))))
              go_wp2
              go_roundw
              case rel => exact ⟨k + 1, by go_num, by omega, HE, below_drewN hbl _⟩
              case measure => simp [intOf]; omega
          · have em := HF hm
            have HE : Hid (Im.jmp s p fn L L = some c) := HIT.out hm
            clear HT HF hm MEM HIT MIS
            rcases h10b with e10 | ⟨e10, e11⟩
            all_goals
              go_wp2
              go_quiet ((go_at_call 36; exact quiet_same (has_any b 0 len cap (nats L) _ _ (by exact HLN.out) (by omega) (by exact HCW.out _))))
              go_wp2
              go_ret
              exact ⟨ret_int (by rw [HE.out]; rfl), below_drewN hend _⟩
      · have e12 : ((op : Int) == 12) = false := by rw [beq_eq_false_iff_ne]; omega
        have e10 : ((op : Int) == 10) = false := by rw [beq_eq_false_iff_ne]; omega
        have e11 : ((op : Int) == 11) = false := by rw [beq_eq_false_iff_ne]; omega
        have HE : Hid (Im.jmp s p fn L L = Im.jmp s p fn L (L.drop (k + 1))) := HMis.out (by simp [Im.badJ, HOP.out]; omega)
        clear h2
        go_wp2
        go_roundw
        case rel => exact ⟨k + 1, by go_num, by omega, HE, hbl⟩
        case measure => simp [intOf]; omega
    · have HE : Hid (Im.jmp s p fn L L = none) := by
        show Im.jmp s p fn L L = none
        rw [HR.out, List.drop_of_length_le (by rw [HLEN.out]; omega)]; rfl
      go_wp2
      go_ret
      exact ⟨ret_int (by rw [HE.out]; rfl), hend⟩
end Go.Proofs.YthljaemhgkepoaaDoor
