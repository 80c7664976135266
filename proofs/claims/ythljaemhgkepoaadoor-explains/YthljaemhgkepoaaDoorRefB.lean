/-
  THE DOCUMENT's SIDE (package triageref): Starts. By the verifier of the loop 'triage'.
-/
import Derived.Test.YthljaemhgkepoaaDoorRefA
namespace Go.Proofs.YthljaemhgkepoaaDoor
open Go.RowKit

theorem Tryd.infoInt : (Tryd.prog.info? 3).map (fun i => (i.zero, i.size, i.bytes)) = some (some (.int .i64 0), 1, 8) := by kernel_rfl
theorem Tryd.undInts : Tryd.prog.underlying 43 = some (.slice 3) := by kernel_rfl

theorem below_app {B : Nat} {a wr w1 : World} {u : Value} {o : Obj} {e : TypeId} {size n : Nat} {xs : List Value} (hown : wr.ownsRow B e size u n xs) (hg : (wr.alloc o).grownBy w1 u.ownBlock) (hb : Below B a wr) (hB : B ≤ wr.heap.size) : Below B a w1 :=
  (hb.alloc hB o).grown hg (by simp; omega) (fun j hj => (hown.lt j hj).1)

abbrev ints (l : List Nat) : List Value := l.map fun (k : Nat) => Value.int .i64 (k : Int)
def place (o : Option Nat) : Int := match o with | none => -1 | some k => k

theorem ret_two {v : Value} {k : IntKind} {a b : Int} (h : a = b) : Ending.returned (.tuple #[v, .int k a]) = .returned (.tuple #[v, .int k b]) := by rw [h]

set_option maxHeartbeats 800000 in
set_option maxRecDepth 100000 in
theorem starts_any (s : ByteArray) (p q : Nat) (w : World) (hs : s.size ≤ 200) (hpq : p ≤ q) (hq : q ≤ s.size) :
    Calls Tryd.prog 24 #[.string s, .agg #[.int .i64 p, .int .i64 q]] w fun e w' =>
      ∃ v, e = .returned (.tuple #[v, .int .i64 (place (Im.run s q p).2)]) ∧ w'.ownsRow (w.heap.size + 1) 3 1 v (Im.run s q p).1.length (ints (Im.run s q p).1) ∧ Below (w.heap.size + 1) (w.alloc (.cells #[.int .i64 p, .int .i64 q] 68)) w' := by
  obtain ⟨i0, hi, hz0, hz1, hz2⟩ := info_parts Tryd.infoInt
  go_enter Tryd.func24, Tryd.ntmps24
  go_wp2
  go_loopw [6, 7] (fun v i wr => ∃ (c : Nat) (L : List Nat), i = .int .i64 c ∧ p ≤ c ∧ c ≤ q ∧ Hid (Im.run s q p = (L ++ (Im.run s q c).1, (Im.run s q c).2)) ∧ L.length ≤ c ∧
      wr.ownsRow (w.heap.size + 1) 3 1 v L.length (ints L) ∧ Below (w.heap.size + 1) (w.alloc (.cells #[.int .i64 p, .int .i64 q] 68)) wr)
    (fun _ i _ => q - (intOf i).toNat)
  case atStart => exact ⟨p, [], rfl, Nat.le_refl _, hpq, rfl, Nat.zero_le _, World.ownsRow_nil _ _ _ _, Below.refl _ _⟩
  case round =>
    obtain ⟨c, L, rfl, hpc, hcq, HR, hLc, hown, hbl⟩ := hrel
    have hto : wr.cell? ⟨w.heap.size, 1, none⟩ = some (.int .i64 q) := (hbl.cell (p := ⟨w.heap.size, 1, none⟩) (by simp)).trans (by simp)
    by_cases hlt : c < q
    · have hcs : c < s.size := by omega
      obtain ⟨z, hz⟩ : ∃ z, Im.sz (s[c]'hcs).toNat = z := ⟨_, rfl⟩
      have HZ : Hid (Im.sz (Im.bt s c) = z) := by rw [← Im.bt_eq s c hcs]; exact hz
      have hz2' : z ≤ 2 := by rw [← hz]; exact Im.sz_le _
      have hub : (s[c]'hcs).toNat < 256 := UInt8.toNat_lt _
      by_cases h0 : z = 0
      · have hz0b : ((z : Int) == 0) = true := by simp [h0]
        have HE : Hid (Im.run s q p = (L, some c)) := by
          show Im.run s q p = (L, some c)
          rw [HR.out, Im.run_bad s q c hlt (Or.inl (by rw [HZ.out]; exact h0))]; simp
        go_wp2_with (go_at_call 35; refine (size_any _ _ (by omega) (by omega)).mono ?_; rintro e w' ⟨rfl, rfl⟩)
        go_ret2
        exact ⟨_, ret_two (by rw [HE.out]; rfl), by rw [HE.out]; exact hown, hbl⟩
      · have hz0b : ((z : Int) == 0) = false := by simp; omega
        by_cases h1 : q < c + z
        · have HE : Hid (Im.run s q p = (L, some c)) := by
            show Im.run s q p = (L, some c)
            rw [HR.out, Im.run_bad s q c hlt (Or.inr (by rw [HZ.out]; exact h1))]; simp
          go_wp2_with (go_at_call 35; refine (size_any _ _ (by omega) (by omega)).mono ?_; rintro e w' ⟨rfl, rfl⟩)
          go_ret2
          exact ⟨_, ret_two (by rw [HE.out]; rfl), by rw [HE.out]; exact hown, hbl⟩
        · have HE : Hid (Im.run s q p = ((L ++ [c]) ++ (Im.run s q (c + z)).1, (Im.run s q (c + z)).2)) := by
            show Im.run s q p = _
            rw [HR.out, Im.run_step s q c hlt (by rw [HZ.out]; omega), HZ.out]; simp
          go_wp2_with (first
            | (at_builtin; (refine wpList_append_own _ rfl _ _ 43 rfl (w.heap.size + 1) 3 i0 (.int .i64 0) 1 8 Tryd.undInts hi hz0 hz1 hz2 rfl (by decide) _ _ _ rfl (hown.alloc _) ⟨wr.heap.size, 0, none⟩ 1 1 [.int .i64 c] rfl rfl ?c1 ?c2 ?c3 ?c4 ?c5 ?_))
            | (go_at_call 35; refine (size_any _ _ (by omega) (by omega)).mono ?_; rintro e w' ⟨rfl, rfl⟩))
          case c1 =>
            intro j u hj
            match j, hj with
            | 0, hj => simp at hj; subst hj; simp [Addr.add]
          case c2 => intro u hu; simp at hu; subst hu; rfl
          case c3 => unfold maxLen; omega
          case c4 => omega
          case c5 => have := hbl.size; simp at this; simp; omega
          · intro v' w1 hown' hgrow _
            have hb1 := below_app hown hgrow hbl (by have := hbl.size; simp at this; omega)
            have ho1 : w1.ownsRow (w.heap.size + 1) 3 1 v' (L ++ [c]).length (ints (L ++ [c])) := by simpa using hown'
            clear hown' hgrow hown hbl hto
            go_wp2
            go_roundw
            case rel => exact ⟨c + z, L ++ [c], by go_num, by omega, by omega, HE, by simp; omega, ho1, hb1⟩
            case measure => simp [intOf]; omega
    · have HE : Hid (Im.run s q p = (L, none)) := by
        show Im.run s q p = _
        rw [HR.out, Im.run_end s q c hlt]; simp
      go_wp2
      go_ret2
      exact ⟨_, ret_two (by rw [HE.out]; rfl), by rw [HE.out]; exact hown, hbl⟩
end Go.Proofs.YthljaemhgkepoaaDoor
