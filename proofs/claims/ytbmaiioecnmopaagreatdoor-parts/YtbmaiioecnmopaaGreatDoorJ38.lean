/-
  TrD, TrE, TrF, TrG, TrH, TrI: THESE TEXTS, JOINED. By the verifier of the loop 'triage'.
-/
import Derived.Test.YtbmaiioecnmopaaGreatDoorJ37
import Derived.Test.YtbmaiioecnmopaaGreatDoorJ31
import Derived.Deep.RegionHeld3
import Derived.Test.YtbmaiioecnmopaaGreatDoorJ33
/-
  THE PICKED ONES, SORTED: the answer of P7. By the verifier of the loop 'triage'.
-/
namespace Go.Proofs.YtbmaiioecnmopaaGreatDoor
open Go.RowKit

theorem srt_ans (E : Nat → List Nat) (Z : Nat → Nat) (n : Nat) : srt (Tr.picks E Z n).2 = Tr.ans E Z n := by
  have hp := (Tr.picks_pk E Z n).1
  generalize hq : (Tr.picks E Z n).2 = pk at hp
  have hans : Tr.ans E Z n = (List.range n).filter fun i => pk.contains i := by unfold Tr.ans; rw [hq]
  rw [hans]
  have h1 : (srt pk).Perm pk := List.mergeSort_perm _ _
  have h2 : pk.Perm ((List.range n).filter fun i => pk.contains i) := by
    refine (List.perm_ext_iff_of_nodup hp.nd (List.Pairwise.filter _ List.nodup_range)).2 ?_
    intro a
    rw [List.mem_filter, List.mem_range]
    constructor
    · intro h; exact ⟨hp.lt a h, by simpa using h⟩
    · intro h; simpa using h.2
  have s1 : (srt pk).Pairwise (fun x y => x ≤ y) := by
    have := List.pairwise_mergeSort (le := fun x y : Nat => decide (x ≤ y)) (fun a b c => by simp; omega) (fun a b => by simp; omega) pk
    exact this.imp (by simp)
  have s2 : ((List.range n).filter fun i => pk.contains i).Pairwise (fun x y => x ≤ y) := by
    refine List.Pairwise.filter _ ?_
    exact (List.pairwise_lt_range (n := n)).imp (fun h => Nat.le_of_lt h)
  exact (h1.trans h2).eq_of_pairwise (le := fun x y : Nat => x ≤ y) (fun a b _ _ h1 h2 => Nat.le_antisymm h1 h2) s1 s2
end Go.Proofs.YtbmaiioecnmopaaGreatDoor

/-
  THE DOCUMENT's SIDE (package triageref): Trim's memory: a row of rows of numbers. By the verifier of the loop 'triage'.
-/
namespace Go.Proofs.YtbmaiioecnmopaaGreatDoor
open Go.RowKit

theorem Tryz.infoRow : (Tryz.prog.info? 32).map (fun i => (i.zero, i.size, i.bytes)) = some (some (.slice none 0 0), 1, 24) := by kernel_rfl
theorem Tryz.undRows : Tryz.prog.underlying 97 = some (.slice 32) := by kernel_rfl

/-- the edges of n inputs: a row of slices, and each one's row. -/
def EdM (base n : Nat) (E : Nat → List Nat) (V : Nat → Value) (v : Value) (w : World) : Prop :=
  w.ownsRow base 32 1 v n ((List.range n).map V) ∧ ∀ i, i < n → w.ownsRow base 3 1 (V i) (E i).length (ints (E i))
theorem owns_kept {w w' : World} {base : Nat} {e : TypeId} {size : Nat} {v : Value} {n : Nat} {xs : List Value} (h : w.ownsRow base e size v n xs) (hb : Below w.heap.size w w') : w'.ownsRow base e size v n xs :=
  World.ownsRow.kept (row := none) h ⟨hb.os, hb.tape, hb.output, hb.size, fun k hk _ => hb.block k hk⟩ (by rcases hx : v.ownBlock with _ | x; exact Or.inl rfl; exact Or.inr (by simp))
theorem EdM.below {base n : Nat} {E : Nat → List Nat} {V : Nat → Value} {v : Value} {w w' : World} (h : EdM base n E V v w) (hb : Below w.heap.size w w') : EdM base n E V v w' := ⟨owns_kept h.1 hb, fun i hi => owns_kept (h.2 i hi) hb⟩
theorem range_map_succ (V : Nat → Value) (n : Nat) : (List.range (n + 1)).map V = (List.range n).map V ++ [V n] := by rw [List.range_succ, List.map_append]; rfl
theorem range_map_congr {V U : Nat → Value} {n : Nat} (h : ∀ i, i < n → V i = U i) : (List.range n).map V = (List.range n).map U := List.map_congr_left fun i hi => h i (List.mem_range.1 hi)
/-- one more row is laid behind the others. -/
theorem EdM.app {base n : Nat} {E : Nat → List Nat} {V : Nat → Value} {v v' u : Value} {w w1 : World} (h : EdM base n E V v w) (hu : w.ownsRow base 3 1 u (E n).length (ints (E n)))
    (hown : w1.ownsRow base 32 1 v' (n + 1) ((List.range n).map V ++ [u])) (hg : w.grownBy w1 v.ownBlock) : EdM base (n + 1) E (fun i => if i = n then u else V i) v' w1 := by
  refine ⟨?_, ?_⟩
  · rw [range_map_succ, if_pos rfl]
    rw [range_map_congr (U := V) (fun i hi => if_neg (by omega))]
    exact hown
  · intro i hi
    have key : ∀ (x : Value) (l : List Nat), w.ownsRow base 3 1 x l.length (ints l) → w1.ownsRow base 3 1 x l.length (ints l) := by
      intro x l hx
      refine World.ownsRow.kept hx hg ?_
      exact owns_kind hx h.1 (by decide)
    dsimp only
    by_cases hin : i = n
    · subst hin; rw [if_pos rfl]; exact key u _ hu
    · rw [if_neg hin]; exact key _ _ (h.2 i (by omega))
end Go.Proofs.YtbmaiioecnmopaaGreatDoor

/-
  THE DOCUMENT's SIDE (package triageref): Trim. By the verifier of the loop 'triage'.
-/
namespace Go.Proofs.YtbmaiioecnmopaaGreatDoor
open Go.RowKit

/-- the edges of an input's run, and its length. -/
def edg (s : ByteArray) (fuel : Nat) (L : List ByteArray) (i : Nat) : List Nat := (rep s fuel (L[i]?.getD ByteArray.empty)).eds
def lenI (L : List ByteArray) (i : Nat) : Nat := (L[i]?.getD ByteArray.empty).size
/-- what Trim answers, of either side. -/
def TrimPost (s : ByteArray) (fuel : Int) (L : List ByteArray) (w w' : World) (e : Ending) : Prop :=
  Below w.heap.size w w' ∧
  (((askP s fuel 0 L).1 ≠ 0 ∧ e = .returned (.tuple #[.slice none 0 0, .int .i64 (askP s fuel 0 L).1, .int .i64 (askP s fuel 0 L).2])) ∨
   (AskOk s fuel 0 L ∧ ∃ v, e = .returned (.tuple #[v, .int .i64 0, .int .i64 0]) ∧ w'.ownsRow w.heap.size 3 1 v (Tr.ans (edg s fuel.toNat L) (lenI L) L.length).length (ints (Tr.ans (edg s fuel.toNat L) (lenI L) L.length))))

theorem flt_step (pk : List Nat) (k : Nat) : (List.range (k + 1)).filter (fun i => pk.contains i) = if pk.contains k then (List.range k).filter (fun i => pk.contains i) ++ [k] else (List.range k).filter (fun i => pk.contains i) := by
  rw [List.range_succ, List.filter_append]
  by_cases h : k ∈ pk
  · simp [h]
  · simp [h]
theorem edg_len (s : ByteArray) (fuel : Nat) (L : List ByteArray) (i : Nat) : (edg s fuel L i).length ≤ 400 := Im.el_len _
theorem flat_len (E : Nat → List Nat) (hE : ∀ i, (E i).length ≤ 400) (pk : List Nat) : (pk.flatMap E).length ≤ 400 * pk.length := by
  induction pk with
  | nil => simp
  | cons a l ih => rw [List.flatMap_cons, List.length_append, List.length_cons]; have := hE a; omega
theorem nodup_len {pk : List Nat} {n : Nat} (hnd : pk.Nodup) (hlt : ∀ j ∈ pk, j < n) : pk.length ≤ n := by
  have h2 : pk.Perm ((List.range n).filter fun i => pk.contains i) := by
    refine (List.perm_ext_iff_of_nodup hnd (List.Pairwise.filter _ List.nodup_range)).2 ?_
    intro a
    rw [List.mem_filter, List.mem_range]
    constructor
    · intro h; exact ⟨hlt a h, by simpa using h⟩
    · intro h; simpa using h.2
  rw [h2.length_eq]
  have := List.length_filter_le (fun i => pk.contains i) (List.range n)
  simpa using this
theorem met_len {E : Nat → List Nat} {n : Nat} {met pk : List Nat} (hE : ∀ i, (E i).length ≤ 400) (h : Tr.Pk E n met pk) (hn : n ≤ 12) : met.length ≤ 4800 := by
  have h1 := nodup_len h.nd h.lt
  have h2 := flat_len E hE pk
  rw [← h.all] at h2
  have : 400 * pk.length ≤ 400 * 12 := Nat.mul_le_mul_left _ (by omega)
  omega
theorem Tryz.infoFlag : (Tryz.prog.info? 4).map (fun i => (i.zero, i.size, i.bytes)) = some (some (.bool false), 1, 1) := by kernel_rfl
theorem Tryz.undFlags : Tryz.prog.underlying 98 = some (.slice 4) := by kernel_rfl
theorem bx_of_owns {w : World} {base g n cap : Nat} {e : TypeId} {xs : List Value} {M : Nat → Value} (h : w.ownsRow base e 1 (.slice (some ⟨g, 0, none⟩) n cap) n xs) (hx : ∀ i, i < n → xs[i]? = some (M i)) : Bx g n M w := by
  have hc := h.cells (g := g) rfl
  obtain ⟨-, ⟨hv, -⟩ | ⟨g', c', cur, hv, -, hg, -⟩⟩ := h
  · cases hv
  · cases hv
    exact ⟨fun i hi => by have := hc i _ (hx i hi); rwa [addr_add] at this, fun _ => rfree_of hg, (Array.getElem?_eq_some_iff.1 hg).1⟩

def bestI : Option Nat → Int
  | none => -1
  | some i => (i : Int)
def mostI (E : Nat → List Nat) (met : List Nat) : Option Nat → Nat
  | none => 0
  | some i => (Tr.fr met (E i)).length
theorem lenI_le {s : ByteArray} {fuel d : Int} {L : List ByteArray} (h : AskOk s fuel d L) (i : Nat) : lenI L i ≤ 24 := by
  unfold lenI
  by_cases hi : i < L.length
  · rw [List.getElem?_eq_getElem hi]; exact h.sz _ (List.getElem_mem hi)
  · rw [List.getElem?_eq_none (by omega)]; exact Nat.zero_le _
theorem fr_le {E : Nat → List Nat} (hE : ∀ i, (E i).length ≤ 400) (met : List Nat) (i : Nat) : (Tr.fr met (E i)).length ≤ 400 := Nat.le_trans (List.length_filter_le _ _) (hE i)
theorem trim_fin {s : ByteArray} {fu n : Nat} {L : List ByteArray} {met pk : List Nat} {w w' : World} {v : Value} (hok : AskOk s fu 0 L) (hL : L.length = n) (hf : Tr.fin (edg s fu L) (lenI L) n n [] [] = (met, pk)) (hb : Below w.heap.size w w') (ho : w'.ownsRow w.heap.size 3 1 v ((List.range n).filter fun i => pk.contains i).length (ints ((List.range n).filter fun i => pk.contains i))) :
    TrimPost s fu L w w' (.returned (.tuple #[v, .int .i64 0, .int .i64 0])) := by
  refine ⟨hb, Or.inr ⟨hok, v, rfl, ?_⟩⟩
  have h1 : (Tr.picks (edg s fu L) (lenI L) n).2 = pk := by
    unfold Tr.picks
    rw [Tr.fin_more _ n [] [] (Nat.le_refl _) (Tr.cnt_le _ _ _), hf]
  have h2 : Tr.ans (edg s fu L) (lenI L) n = (List.range n).filter fun i => pk.contains i := by unfold Tr.ans; rw [h1]
  rw [hL]
  show w'.ownsRow w.heap.size 3 1 v (Tr.ans (edg s fu L) (lenI L) n).length (ints (Tr.ans (edg s fu L) (lenI L) n))
  rw [h2]
  exact ho

set_option maxHeartbeats 1600000 in
set_option maxRecDepth 100000 in
theorem refTrim_any (s : ByteArray) (fuel : Int) (L : List ByteArray) (v : Value) (w : World) (hI : Ins L v w) :
    Calls Tryz.prog 18 #[.string s, .int .i64 fuel, v] w fun e w' => TrimPost s fuel L w w' e := by
  obtain ⟨iR, hiR, hR0, hR1, hR2⟩ := info_parts Tryz.infoRow
  obtain ⟨i0, hi0, hz0, hz1, hz2⟩ := info_parts Tryz.infoInt
  obtain ⟨iB, hiB, hB0, hB1, hB2⟩ := info_parts Tryz.infoFlag
  have HI : Hid (Ins L v w) := hI
  obtain ⟨a, cap, rfl, hcap, hmax, hcell, -⟩ := hI
  unfold maxLen at hmax
  obtain ⟨len, HLEN⟩ : ∃ len, Hid (L.length = len) := ⟨_, rfl⟩
  rw [HLEN.out] at hcap hcell
  rw [HLEN.out]
  go_enter Tryz.func18, Tryz.ntmps18
  go_wp2_with fail
  refine (asked_any s fuel 0 L _ _ (by rw [← HLEN.out]; exact HI.out)).mono ?_
  rintro e w1 ⟨rfl, hb1⟩
  have HB : Hid (Below w.heap.size w w1) := hb1
  by_cases h : (askP s fuel 0 L).1 = 0
  · have HOK : Hid (AskOk s fuel 0 L) := askP_zero h
    have ha := HOK.out.ask
    rw [ha]
    obtain ⟨fu, rfl⟩ : ∃ fu : Nat, fuel = (fu : Int) := ⟨fuel.toNat, by have := HOK.out.fu; omega⟩
    have hf : fu ≤ 2000 := by have := HOK.out.fu; omega
    have hc := HOK.out.chk
    have hn : len ≤ 12 := by have := HOK.out.n; have := HLEN.out; omega
    have hcell1 : 0 < len → ∃ g o, a = some ⟨g, o, none⟩ ∧ g < w.heap.size ∧ ∀ i, i < len → w.cell? ⟨g, o + i, none⟩ = some (.string (L[i]?.getD ByteArray.empty)) := hcell
    clear hcell hb1 h ha
    go_wp2
    go_loopw [11, 12] (fun ev i wr => ∃ (j : Nat) (V : Nat → Value), i = .int .i64 j ∧ j ≤ len ∧ EdM w.heap.size j (edg s fu L) V ev wr ∧ Below w.heap.size w wr) (fun _ i _ => len - (intOf i).toNat)
    case atStart => exact ⟨0, fun _ => .slice none 0 0, rfl, by omega, ⟨World.ownsRow_nil _ _ _ _, fun i hi => by omega⟩, HB.out⟩
    case round =>
      obtain ⟨j, V, rfl, hj, hE, hb⟩ := hrel
      obtain ⟨a3, cap3, hv3, -, -, -⟩ := owns_shape hE.1
      subst hv3
      by_cases hlt : j < len
      · obtain ⟨g, o, rfl, hg, hcc⟩ := hcell1 (by omega)
        have hcj := (hb.cell (p := ⟨g, o + j, none⟩) hg).trans (hcc j hlt)
        have hsj : (L[j]?.getD ByteArray.empty).size ≤ 24 := by
          have hjl : j < L.length := by rw [HLEN.out]; exact hlt
          rw [List.getElem?_eq_getElem hjl]; exact HOK.out.sz _ (List.getElem_mem hjl)
        have HED : Hid (edg s fu L j = (rep s fu (L[j]?.getD ByteArray.empty)).eds) := rfl
        generalize L[j]?.getD ByteArray.empty = x at *
        have HE : Hid (EdM w.heap.size j (edg s fu L) V (.slice a3 j cap3) wr) := hE
        have HBr : Hid (Below w.heap.size w wr) := hb
        clear hE hb hcc hcell1
        go_wp2_with fail
        refine (play_rep s x fu _ hc hsj hf).mono ?_
        rintro e w2 ⟨v28, v29, rfl, h28, h29, hb2⟩
        have HE2 : Hid (EdM w.heap.size j (edg s fu L) V (.slice a3 j cap3) w2) := HE.out.below hb2
        have HB2 : Hid (Below w.heap.size w w2) := HBr.out.trans (hb2.mono HBr.out.size)
        have h29' := owns_base (base' := w.heap.size) h29 HBr.out.size
        rw [← HED.out] at h29'
        generalize rep s fu x = p at *
        obtain ⟨a5, cap5, hv5, -, -, -⟩ := owns_shape h29'
        subst hv5
        obtain ⟨a4, cap4, hv4, -, -, -⟩ := owns_shape h28
        subst hv4
        have H29 : Hid (w2.ownsRow w.heap.size 3 1 (.slice a5 (edg s fu L j).length cap5) (edg s fu L j).length (ints (edg s fu L j))) := h29'
        have hown := HE2.out.1
        clear HE HBr hb2 h28 h29 h29'
        go_wp2_with (at_builtin; (refine wpList_append_own _ rfl _ _ 97 rfl w.heap.size 32 iR (.slice none 0 0) 1 24 Tryz.undRows hiR hR0 hR1 hR2 rfl (by decide) _ _ _ rfl ((hown.alloc _).alloc _) ⟨w2.heap.size + 1, 0, none⟩ 1 1 [.slice a5 (edg s fu L j).length cap5] rfl rfl ?c1 ?c2 ?c3 ?c4 ?c5 ?_))
        case c1 =>
          intro i u hi
          match i, hi with
          | 0, hi => simp at hi; subst hi; simp [Addr.add]
        case c2 => intro u hu; simp at hu; subst hu; rfl
        case c3 => unfold maxLen; omega
        case c4 => omega
        case c5 => have := HB2.out.size; simp; omega
        · intro v' w3 hown' hgrow _
          have hbA : Below w2.heap.size w2 ((w2.alloc (.cells #[.int .i64 (p.en : Nat), .int .i64 (p.fa : Nat), .int .i64 (p.pa : Nat), .int .i64 (p.kd : Nat), .slice a4 p.sts.length cap4, .slice a5 (edg s fu L j).length cap5, .int .i64 (p.k : Nat), .int .i64 p.top] 88)).alloc (.cells #[.slice a5 (edg s fu L j).length cap5] 32)) := ((Below.refl _ _).alloc (Nat.le_refl _) _).alloc (by simp) _
          have HE3 : Hid (EdM w.heap.size (j + 1) (edg s fu L) (fun i => if i = j then .slice a5 (edg s fu L j).length cap5 else V i) v' w3) := (HE2.out.below hbA).app (owns_kept H29.out hbA) hown' hgrow
          have HB3 : Hid (Below w.heap.size w w3) := below_app (hown.alloc _) hgrow (HB2.out.alloc HB2.out.size _) (Nat.le_trans HB2.out.size (by simp))
          clear hown' hgrow hown hbA
          go_wp2
          go_roundw
          case rel => exact ⟨j + 1, _, by go_num, by omega, HE3.out, HB3.out⟩
          case measure => simp [intOf]; omega
      · obtain rfl : j = len := by omega
        obtain ⟨W0, rfl⟩ : ∃ W0, W0 = wr := ⟨_, rfl⟩
        have HE : Hid (EdM w.heap.size j (edg s fu L) V (.slice a3 j cap3) W0) := hE
        have HBr : Hid (Below w.heap.size w W0) := hb
        clear hE hb
        go_wp2_with (at_make; (refine wpList_make_full _ rfl _ _ 98 rfl W0.heap.size 4 iB (.bool false) 1 Tryz.undFlags hiB hB0 hB1 _ _ _ _ j rfl rfl (by omega) (by omega) (by rw [hB2]; omega) (by unfold maxLen; omega) (by simp) ?_))
        intro w4 hpk hgr
        have hbx := bx_of_owns (M := fun _ => .bool false) hpk (fun i hi => by simp [madeCells, hi, Nat.mod_one])
        have HBX : Hid (Bx W0.heap.size j (fun _ => .bool false) w4) := hbx
        have HB4 : Hid (Below W0.heap.size W0 w4) := ⟨hgr.os, hgr.tape, hgr.output, hgr.size, fun k hk => hgr.block k hk (by simp)⟩
        clear hpk hgr hbx
        go_wp2
        go_loopw [15, 16] (fun mv rv wq => ∃ (r : Nat) (met pk : List Nat), rv = .int .i64 r ∧ r ≤ j ∧ Tr.fin (edg s fu L) (lenI L) j (j - r) met pk = Tr.fin (edg s fu L) (lenI L) j j [] [] ∧ Tr.Pk (edg s fu L) j met pk ∧ Bx W0.heap.size j (fun i => .bool (pk.contains i)) wq ∧ wq.ownsRow (W0.heap.size + 1) 3 1 mv met.length (ints met) ∧ Below W0.heap.size W0 wq) (fun _ rv _ => j - (intOf rv).toNat)
        case atStart => exact ⟨0, [], [], rfl, by omega, rfl, Tr.pk_start _ _, HBX.out, World.ownsRow_nil _ _ _ _, HB4.out⟩
        case round =>
          obtain ⟨r, met, pk, rfl, hr, hfin, hPk, hbx, hmet, hbq⟩ := hrel
          obtain ⟨am, capm, hvm, -, -, -⟩ := owns_shape hmet
          subst hvm
          obtain ⟨W1, rfl⟩ : ∃ W1, W1 = wr := ⟨_, rfl⟩
          have hml := met_len (edg_len s fu L) hPk hn
          have HBXQ : Hid (Bx W0.heap.size j (fun i => .bool (pk.contains i)) W1) := hbx
          have HBQ : Hid (Below W0.heap.size W0 W1) := hbq
          by_cases hrj : r < j
          · obtain ⟨gi, oi, rfl, hgi, hci⟩ := hcell1 (by omega)
            have HE1 : Hid (EdM w.heap.size j (edg s fu L) V (.slice a3 j cap3) W1) := HE.out.below HBQ.out
            have HCI : Hid (∀ i, i < j → W1.cell? ⟨gi, oi + i, none⟩ = some (.string (L[i]?.getD ByteArray.empty))) := fun i hi => (HBQ.out.cell (p := ⟨gi, oi + i, none⟩) (Nat.lt_of_lt_of_le hgi HBr.out.size)).trans ((HBr.out.cell (p := ⟨gi, oi + i, none⟩) hgi).trans (hci i hi))
            have HMET : Hid (W1.ownsRow (W0.heap.size + 1) 3 1 (.slice am met.length capm) met.length (ints met)) := hmet
            have HFIN : Hid (Tr.fin (edg s fu L) (lenI L) j (j - r) met pk = Tr.fin (edg s fu L) (lenI L) j j [] []) := hfin
            have HPKH : Hid (Tr.Pk (edg s fu L) j met pk) := hPk
            clear hmet hbx hbq hfin hPk hci
            go_wp2
            go_loopw [17, 18, 19] (fun bv mv iv wz => ∃ k : Nat, iv = .int .i64 k ∧ k ≤ j ∧ bv = .int .i64 (bestI (Tr.sel (edg s fu L) (lenI L) met k)) ∧ mv = .int .i64 (mostI (edg s fu L) met (Tr.sel (edg s fu L) (lenI L) met k) : Nat) ∧ ∃ q, wz = W1.drewN q) (fun _ _ iv _ => j - (intOf iv).toNat)
            case atStart => exact ⟨0, rfl, by omega, rfl, rfl, 0, rfl⟩
            case round =>
              obtain ⟨k, rfl, hk, rfl, rfl, q, rfl⟩ := hrel
              by_cases hkj : k < j
              · have HROW : Hid (W1.ownsRow w.heap.size 3 1 (V k) (edg s fu L k).length (ints (edg s fu L k))) := HE1.out.2 k hkj
                obtain ⟨ae, ce, hve, -, -, hcE⟩ := owns_shape HE1.out.1
                obtain ⟨rfl, -, rfl⟩ : a3 = ae ∧ True ∧ cap3 = ce := by cases hve; exact ⟨rfl, trivial, rfl⟩
                obtain ⟨ge, rfl, -, hge, hce⟩ := hcE (by omega)
                have ckE := hce k (V k) (by simp [hkj])
                obtain ⟨ak, capk, hvk, -, -, -⟩ := owns_shape HROW.out
                rw [hvk] at ckE HROW
                have HSEL : Hid (Tr.sel (edg s fu L) (lenI L) met (k + 1) = if Tr.beats (edg s fu L) (lenI L) met (Tr.sel (edg s fu L) (lenI L) met k) k then some k else Tr.sel (edg s fu L) (lenI L) met k) := rfl
                have HROW2 : Hid (∀ m, (W1.drewN m).ownsRow w.heap.size 3 1 (.slice ak (edg s fu L k).length capk) (edg s fu L k).length (ints (edg s fu L k))) := fun m => HROW.out
                have HMET2 : Hid (∀ m, (W1.drewN m).ownsRow (W0.heap.size + 1) 3 1 (.slice am met.length capm) met.length (ints met)) := fun m => HMET.out
                have hnk := fr_le (edg_len s fu L) met k
                have hel := edg_len s fu L k
                have ckI := HCI.out k hkj
                have hzk := lenI_le HOK.out k
                unfold lenI at hzk
                clear hve hcE hce
                go_wp2_with fail
                refine (fresh_any _ _ _ _ (edg s fu L k) met _ hel (by omega) (HROW2.out _) (HMET2.out _)).mono ?_
                rintro e w' ⟨rfl, q2, rfl⟩
                obtain ⟨nk, HNK⟩ : ∃ nk, Hid ((Tr.fr met (edg s fu L k)).length = nk) := ⟨_, rfl⟩
                rw [HNK.out] at hnk
                rw [HNK.out]
                cases hc : Tr.sel (edg s fu L) (lenI L) met k with
                | none =>
                  rw [hc] at HSEL
                  dsimp only [bestI, mostI]
                  by_cases hp : 0 < nk
                  · have HS2 : Hid (Tr.sel (edg s fu L) (lenI L) met (k + 1) = some k) := by
                      show Tr.sel (edg s fu L) (lenI L) met (k + 1) = some k
                      rw [HSEL.out, if_pos (by simp only [Tr.beats, HNK.out]; exact decide_eq_true hp)]
                    clear HSEL
                    go_wp2
                    go_quiet (fail)
                    go_wp2
                    go_roundw
                    case rel => exact ⟨k + 1, by go_num, by omega, by rw [HS2.out]; first | done | rfl, by rw [HS2.out]; show _ = Value.int .i64 ((Tr.fr met (edg s fu L k)).length : Nat); rw [HNK.out], _, rfl⟩
                    case measure => simp [intOf]; omega
                  · have HS2 : Hid (Tr.sel (edg s fu L) (lenI L) met (k + 1) = none) := by
                      show Tr.sel (edg s fu L) (lenI L) met (k + 1) = none
                      rw [HSEL.out, if_neg (by simp only [Tr.beats, HNK.out]; simpa using hp)]
                    obtain rfl : nk = 0 := by omega
                    clear HSEL
                    go_wp2
                    go_quiet (fail)
                    go_wp2
                    go_roundw
                    case rel => exact ⟨k + 1, by go_num, by omega, by rw [HS2.out]; first | done | rfl, by rw [HS2.out]; first | done | rfl, _, rfl⟩
                    case measure => simp [intOf]; omega
                | some i =>
                  rw [hc] at HSEL
                  obtain ⟨hik, hmi⟩ := Tr.sel_some hc
                  obtain ⟨mi, HMI⟩ : ∃ mi, Hid ((Tr.fr met (edg s fu L i)).length = mi) := ⟨_, rfl⟩
                  rw [HMI.out] at hmi
                  have hmi4 := fr_le (edg_len s fu L) met i
                  rw [HMI.out] at hmi4
                  have ciI := HCI.out i (by omega)
                  have hzi := lenI_le HOK.out i
                  unfold lenI at hzi
                  have HZ : Hid (lenI L k < lenI L i ↔ (L[k]?.getD ByteArray.empty).size < (L[i]?.getD ByteArray.empty).size) := Iff.rfl
                  dsimp only [bestI, mostI]
                  rw [HMI.out]
                  generalize L[k]?.getD ByteArray.empty = xk at *
                  generalize L[i]?.getD ByteArray.empty = xi at *
                  by_cases h1 : mi < nk
                  · have HS2 : Hid (Tr.sel (edg s fu L) (lenI L) met (k + 1) = some k) := by
                      show Tr.sel (edg s fu L) (lenI L) met (k + 1) = some k
                      rw [HSEL.out, if_pos (by simp only [Tr.beats, HNK.out, HMI.out]; exact decide_eq_true (Or.inl h1))]
                    clear HSEL
                    go_wp2
                    go_quiet (fail)
                    go_wp2
                    go_roundw
                    case rel => exact ⟨k + 1, by go_num, by omega, by rw [HS2.out]; first | done | rfl, by rw [HS2.out]; show _ = Value.int .i64 ((Tr.fr met (edg s fu L k)).length : Nat); rw [HNK.out], _, rfl⟩
                    case measure => simp [intOf]; omega
                  · by_cases h2 : nk = mi
                    · by_cases h3 : xk.size < xi.size
                      · have HS2 : Hid (Tr.sel (edg s fu L) (lenI L) met (k + 1) = some k) := by
                          show Tr.sel (edg s fu L) (lenI L) met (k + 1) = some k
                          rw [HSEL.out, if_pos (by simp only [Tr.beats, HNK.out, HMI.out]; exact decide_eq_true (Or.inr ⟨h2, HZ.out.2 h3⟩))]
                        clear HSEL
                        subst h2
                        go_wp2
                        go_quiet (fail)
                        go_wp2
                        go_roundw
                        case rel => exact ⟨k + 1, by go_num, by omega, by rw [HS2.out]; first | done | rfl, by rw [HS2.out]; show _ = Value.int .i64 ((Tr.fr met (edg s fu L k)).length : Nat); rw [HNK.out], _, rfl⟩
                        case measure => simp [intOf]; omega
                      · have HS2 : Hid (Tr.sel (edg s fu L) (lenI L) met (k + 1) = some i) := by
                          show Tr.sel (edg s fu L) (lenI L) met (k + 1) = some i
                          rw [HSEL.out, if_neg (by simp only [Tr.beats, HNK.out, HMI.out]; simp only [decide_eq_true_eq]; rintro (h | h); exact h1 h; exact h3 (HZ.out.1 h.2))]
                        clear HSEL
                        subst h2
                        go_wp2
                        go_quiet (fail)
                        go_wp2
                        go_roundw
                        case rel => exact ⟨k + 1, by go_num, by omega, by rw [HS2.out]; first | done | rfl, by rw [HS2.out]; show _ = Value.int .i64 ((Tr.fr met (edg s fu L i)).length : Nat); rw [HMI.out], _, rfl⟩
                        case measure => simp [intOf]; omega
                    · have HS2 : Hid (Tr.sel (edg s fu L) (lenI L) met (k + 1) = some i) := by
                        show Tr.sel (edg s fu L) (lenI L) met (k + 1) = some i
                        rw [HSEL.out, if_neg (by simp only [Tr.beats, HNK.out, HMI.out]; simp only [decide_eq_true_eq]; rintro (h | h); exact h1 h; exact h2 h.1)]
                      clear HSEL
                      have b1 : (((nk : Nat) : Int) == ((mi : Nat) : Int)) = false := by simp; omega
                      go_wp2
                      go_quiet (fail)
                      go_wp2
                      go_roundw
                      case rel => exact ⟨k + 1, by go_num, by omega, by rw [HS2.out]; first | done | rfl, by rw [HS2.out]; show _ = Value.int .i64 ((Tr.fr met (edg s fu L i)).length : Nat); rw [HMI.out], _, rfl⟩
                      case measure => simp [intOf]; omega
              · obtain rfl : j = k := by omega
                cases hc : Tr.sel (edg s fu L) (lenI L) met j with
                | none =>
                  have HPKS : Hid (Tr.fin (edg s fu L) (lenI L) j j [] [] = (met, pk)) := by
                    show Tr.fin (edg s fu L) (lenI L) j j [] [] = (met, pk)
                    rw [← HFIN.out, Tr.fin_end hc]
                  dsimp only [bestI, mostI]
                  have HBXQ : Hid (Bx W0.heap.size j (fun i => .bool (pk.contains i)) (W1.drewN q)) := HBXQ.out.drewN q
                  have HBQ : Hid (Below W0.heap.size W0 (W1.drewN q)) := below_drewP q HBQ.out
                  clear HFIN HPKH HMET
                  go_wp2
                  go_loopw [22, 23] (fun lv iv wz => ∃ k : Nat, iv = .int .i64 k ∧ k ≤ j ∧ wz.ownsRow (W0.heap.size + 1) 3 1 lv ((List.range k).filter fun i => pk.contains i).length (ints ((List.range k).filter fun i => pk.contains i)) ∧ Bx W0.heap.size j (fun i => .bool (pk.contains i)) wz ∧ Below W0.heap.size W0 wz) (fun _ iv _ => j - (intOf iv).toNat)
                  case atStart => exact ⟨0, rfl, by omega, World.ownsRow_nil _ _ _ _, HBXQ.out, HBQ.out⟩
                  case round =>
                    obtain ⟨k, rfl, hk, hlo, hbx2, hbq2⟩ := hrel
                    obtain ⟨al, capl, hvl, -, -, -⟩ := owns_shape hlo
                    subst hvl
                    by_cases hkn : k < j
                    · have ck := hbx2.cell k hkn
                      have hfl : ((List.range k).filter fun i => pk.contains i).length ≤ 12 := Nat.le_trans (List.length_filter_le _ _) (by simp; omega)
                      have HFS := flt_step pk k
                      have HX2 : Hid (Bx W0.heap.size j (fun i => .bool (pk.contains i)) wr) := hbx2
                      cases hp : pk.contains k with
                      | true =>
                        rw [hp] at ck HFS
                        rw [if_pos rfl] at HFS
                        have HF2 : Hid ((List.range (k + 1)).filter (fun i => pk.contains i) = (List.range k).filter (fun i => pk.contains i) ++ [k]) := HFS
                        generalize (List.range k).filter (fun i => pk.contains i) = X at *
                        clear HFS hbx2
                        go_wp2_with (at_builtin; (refine wpList_append_own _ rfl _ _ 32 rfl (W0.heap.size + 1) 3 i0 (.int .i64 0) 1 8 Tryz.undInts hi0 hz0 hz1 hz2 rfl (by decide) _ _ _ rfl (hlo.alloc _) ⟨wr.heap.size, 0, none⟩ 1 1 [.int .i64 (k : Nat)] rfl rfl ?c1 ?c2 ?c3 ?c4 ?c5 ?_))
                        case c1 =>
                          intro i u hi
                          match i, hi with
                          | 0, hi => simp at hi; subst hi; simp [Addr.add]
                        case c2 => intro u hu; simp at hu; subst hu; rfl
                        case c3 => unfold maxLen; omega
                        case c4 => omega
                        case c5 => have := HX2.out.lt; simp; omega
                        · intro v' w5 hown' hgrow _
                          have hl5 : w5.ownsRow (W0.heap.size + 1) 3 1 v' ((List.range (k + 1)).filter fun i => pk.contains i).length (ints ((List.range (k + 1)).filter fun i => pk.contains i)) := by rw [HF2.out]; simpa [ints] using hown'
                          have hb5 : Below W0.heap.size W0 w5 := below_app (owns_base hlo (Nat.le_succ _)) hgrow hbq2 hbq2.size
                          have hx5 : Bx W0.heap.size j (fun i => .bool (pk.contains i)) w5 := (HX2.out.alloc _).grown hgrow (by intro e; have := (hlo.lt _ e.symm).1; omega)
                          clear hown' hgrow hlo hbq2
                          go_wp2
                          go_roundw
                          case rel => first | exact ⟨k + 1, by go_num, by omega, hl5, hx5, hb5⟩ | exact ⟨_, _, _, _, _, _, _, _, _, _, _, _, _, _, _, _, ⟨k + 1, rfl, by omega, hl5, hx5, hb5⟩, rfl⟩
                          case measure => simp [intOf]; omega
                      | false =>
                        rw [hp] at ck HFS
                        rw [if_neg (by simp)] at HFS
                        have hl5 : wr.ownsRow (W0.heap.size + 1) 3 1 (.slice al ((List.range k).filter fun i => pk.contains i).length capl) ((List.range (k + 1)).filter fun i => pk.contains i).length (ints ((List.range (k + 1)).filter fun i => pk.contains i)) := by rw [HFS]; exact hlo
                        have HL5 : Hid _ := hl5
                        clear HFS hbx2 hl5 hlo
                        go_wp2
                        go_roundw
                        case rel => exact ⟨k + 1, by go_num, by omega, HL5.out, HX2.out, hbq2⟩
                        case measure => simp [intOf]; omega
                    · obtain rfl : k = j := by omega
                      have HFIN : Hid (TrimPost s fu L w wr (.returned (.tuple #[.slice al ((List.range k).filter fun i => pk.contains i).length capl, .int .i64 0, .int .i64 0]))) := trim_fin HOK.out HLEN.out HPKS.out (HBr.out.trans (hbq2.mono HBr.out.size)) (owns_base hlo (Nat.le_succ_of_le HBr.out.size))
                      clear hlo hbx2 hbq2
                      go_wp2
                      go_ret3
                      exact HFIN.out
                | some b =>
                  dsimp only [bestI, mostI]
                  obtain ⟨hbj, hbm⟩ := Tr.sel_some hc
                  have cb := HBXQ.out.cell b hbj
                  have fb := HBXQ.out.frz
                  have hzb := HBXQ.out.lt
                  go_wp2
                  have HE2 : Hid (EdM w.heap.size j (edg s fu L) V (.slice a3 j cap3) W1) := HE1.out
                  have hlb := edg_len s fu L b
                  have HBXS : Hid (Bx W0.heap.size j (fun i => .bool ((pk ++ [b]).contains i)) ((W1.drewN q).setCell ⟨W0.heap.size, b, none⟩ (.bool true))) := by
                    refine bx_congr ((HBXQ.out.drewN q).set b (.bool true) hbj) ?_
                    intro i _
                    simp only [updV]
                    by_cases hib : i = b
                    · simp [hib]
                    · simp [hib]
                  have HBQS : Hid (Below W0.heap.size W0 ((W1.drewN q).setCell ⟨W0.heap.size, b, none⟩ (.bool true))) := (below_drewP q HBQ.out).setCell (p := ⟨W0.heap.size, b, none⟩) (Nat.le_refl _) _
                  have HMETS : Hid (((W1.drewN q).setCell ⟨W0.heap.size, b, none⟩ (.bool true)).ownsRow (W0.heap.size + 1) 3 1 (.slice am met.length capm) met.length (ints met)) := owns_setb (show (W1.drewN q).ownsRow (W0.heap.size + 1) 3 1 (.slice am met.length capm) met.length (ints met) from HMET.out) (Nat.lt_succ_self _)
                  have HNEXT : Hid (Tr.fin (edg s fu L) (lenI L) j (j - (r + 1)) (met ++ edg s fu L b) (pk ++ [b]) = Tr.fin (edg s fu L) (lenI L) j j [] []) := by
                    show Tr.fin (edg s fu L) (lenI L) j (j - (r + 1)) (met ++ edg s fu L b) (pk ++ [b]) = Tr.fin (edg s fu L) (lenI L) j j [] []
                    rw [← HFIN.out, show j - r = (j - (r + 1)) + 1 by omega]
                    show _ = (match Tr.sel (edg s fu L) (lenI L) met j with | none => (met, pk) | some x => Tr.fin (edg s fu L) (lenI L) j (j - (r + 1)) (met ++ edg s fu L x) (pk ++ [x]))
                    rw [hc]
                  have HPK2 : Hid (Tr.Pk (edg s fu L) j (met ++ edg s fu L b) (pk ++ [b])) := Tr.pk_step HPKH.out hc
                  clear HBXQ HBQ HMET HFIN HPKH hbm
                  go_loopw [15, 21] (fun mv kv wz => ∃ m : Nat, kv = .int .i64 m ∧ m ≤ (edg s fu L b).length ∧ wz.ownsRow (W0.heap.size + 1) 3 1 mv (met ++ (edg s fu L b).take m).length (ints (met ++ (edg s fu L b).take m)) ∧ Bx W0.heap.size j (fun i => .bool ((pk ++ [b]).contains i)) wz ∧ Below W0.heap.size W0 wz) (fun _ kv _ => (edg s fu L b).length - (intOf kv).toNat)
                  case atStart => exact ⟨0, rfl, by omega, by simpa using HMETS.out, HBXS.out, HBQS.out⟩
                  case round =>
                    obtain ⟨m, rfl, hm, hmr, hbx3, hbq3⟩ := hrel
                    obtain ⟨ar, capr, hvr, -, -, -⟩ := owns_shape hmr
                    subst hvr
                    have HE3 := HE.out.below hbq3
                    obtain ⟨ae, ce, hve, -, -, hcE⟩ := owns_shape HE3.1
                    obtain ⟨rfl, -, rfl⟩ : a3 = ae ∧ True ∧ cap3 = ce := by cases hve; exact ⟨rfl, trivial, rfl⟩
                    obtain ⟨ge, rfl, -, hge, hce⟩ := hcE (by omega)
                    have cbE := hce b (V b) (by simp [hbj])
                    obtain ⟨ab, capb, hvb, -, -, hcb⟩ := owns_shape (HE3.2 b hbj)
                    rw [hvb] at cbE
                    by_cases hml2 : m < (edg s fu L b).length
                    · obtain ⟨gb, rfl, -, hgb, hcb2⟩ := hcb (by omega)
                      have cm := hcb2 m _ (ints_get _ m hml2)
                      have HTK : Hid (met ++ (edg s fu L b).take (m + 1) = (met ++ (edg s fu L b).take m) ++ [(edg s fu L b)[m]?.getD 0]) := by
                        show met ++ (edg s fu L b).take (m + 1) = (met ++ (edg s fu L b).take m) ++ [(edg s fu L b)[m]?.getD 0]
                        rw [List.take_add_one, List.getElem?_eq_getElem hml2, List.append_assoc]; rfl
                      have hXl : (met ++ (edg s fu L b).take m).length ≤ 5200 := by rw [List.length_append]; have := List.length_take_le m (edg s fu L b); omega
                      generalize (edg s fu L b)[m]?.getD 0 = x at *
                      generalize met ++ (edg s fu L b).take m = X at *
                      have HX3 : Hid (Bx W0.heap.size j (fun i => .bool ((pk ++ [b]).contains i)) wr) := hbx3
                      clear hve hcE hce hcb hcb2 HE3 hbx3
                      go_wp2_with (at_builtin; (refine wpList_append_own _ rfl _ _ 32 rfl (W0.heap.size + 1) 3 i0 (.int .i64 0) 1 8 Tryz.undInts hi0 hz0 hz1 hz2 rfl (by decide) _ _ _ rfl (hmr.alloc _) ⟨wr.heap.size, 0, none⟩ 1 1 [.int .i64 (x : Nat)] rfl rfl ?c1 ?c2 ?c3 ?c4 ?c5 ?_))
                      case c1 =>
                        intro i u hi
                        match i, hi with
                        | 0, hi => simp at hi; subst hi; simp [Addr.add]
                      case c2 => intro u hu; simp at hu; subst hu; rfl
                      case c3 => unfold maxLen; omega
                      case c4 => omega
                      case c5 => have := HX3.out.lt; simp; omega
                      · intro v' w5 hown' hgrow _
                        have hl5 : w5.ownsRow (W0.heap.size + 1) 3 1 v' (met ++ (edg s fu L b).take (m + 1)).length (ints (met ++ (edg s fu L b).take (m + 1))) := by rw [HTK.out]; simpa [ints] using hown'
                        have hb5 : Below W0.heap.size W0 w5 := below_app (owns_base hmr (Nat.le_succ _)) hgrow hbq3 hbq3.size
                        have hx5 : Bx W0.heap.size j (fun i => .bool ((pk ++ [b]).contains i)) w5 := (HX3.out.alloc _).grown hgrow (by intro e; have := (hmr.lt _ e.symm).1; omega)
                        clear hown' hgrow hmr hbq3
                        go_wp2
                        go_roundw
                        case rel => exact ⟨m + 1, by go_num, by omega, hl5, hx5, hb5⟩
                        case measure => simp [intOf]; omega
                    · obtain rfl : m = (edg s fu L b).length := by omega
                      rw [List.take_of_length_le (Nat.le_refl _)] at hmr
                      have HMR : Hid (wr.ownsRow (W0.heap.size + 1) 3 1 (.slice ar (met ++ edg s fu L b).length capr) (met ++ edg s fu L b).length (ints (met ++ edg s fu L b))) := hmr
                      have HX3 : Hid (Bx W0.heap.size j (fun i => .bool ((pk ++ [b]).contains i)) wr) := hbx3
                      have HB3 : Hid (Below W0.heap.size W0 wr) := hbq3
                      clear hve hcE hce hcb HE3 hmr hbx3 hbq3
                      go_wp2
                      go_roundw
                      case rel => exact ⟨r + 1, met ++ edg s fu L b, pk ++ [b], by go_num, by omega, HNEXT.out, HPK2.out, HX3.out, by rw [List.take_of_length_le (Nat.le_refl _)]; exact HMR.out, HB3.out⟩
                      case measure => simp [intOf]; omega
          · obtain rfl : r = j := by omega
            have HPKS : Hid (Tr.fin (edg s fu L) (lenI L) r r [] [] = (met, pk)) := by
              show Tr.fin (edg s fu L) (lenI L) r r [] [] = (met, pk)
              rw [← hfin, Nat.sub_self]; rfl
            clear hbx hbq hmet hfin
            go_wp2
            go_loopw [22, 23] (fun lv iv wz => ∃ k : Nat, iv = .int .i64 k ∧ k ≤ r ∧ wz.ownsRow (W0.heap.size + 1) 3 1 lv ((List.range k).filter fun i => pk.contains i).length (ints ((List.range k).filter fun i => pk.contains i)) ∧ Bx W0.heap.size r (fun i => .bool (pk.contains i)) wz ∧ Below W0.heap.size W0 wz) (fun _ iv _ => r - (intOf iv).toNat)
            case atStart => exact ⟨0, rfl, by omega, World.ownsRow_nil _ _ _ _, HBXQ.out, HBQ.out⟩
            case round =>
              obtain ⟨k, rfl, hk, hlo, hbx2, hbq2⟩ := hrel
              obtain ⟨al, capl, hvl, -, -, -⟩ := owns_shape hlo
              subst hvl
              by_cases hkn : k < r
              · have ck := hbx2.cell k hkn
                have hfl : ((List.range k).filter fun i => pk.contains i).length ≤ 12 := Nat.le_trans (List.length_filter_le _ _) (by simp; omega)
                have HFS := flt_step pk k
                have HX2 : Hid (Bx W0.heap.size r (fun i => .bool (pk.contains i)) wr) := hbx2
                cases hp : pk.contains k with
                | true =>
                  rw [hp] at ck HFS
                  rw [if_pos rfl] at HFS
                  have HF2 : Hid ((List.range (k + 1)).filter (fun i => pk.contains i) = (List.range k).filter (fun i => pk.contains i) ++ [k]) := HFS
                  generalize (List.range k).filter (fun i => pk.contains i) = X at *
                  clear HFS hbx2
                  go_wp2_with (at_builtin; (refine wpList_append_own _ rfl _ _ 32 rfl (W0.heap.size + 1) 3 i0 (.int .i64 0) 1 8 Tryz.undInts hi0 hz0 hz1 hz2 rfl (by decide) _ _ _ rfl (hlo.alloc _) ⟨wr.heap.size, 0, none⟩ 1 1 [.int .i64 (k : Nat)] rfl rfl ?c1 ?c2 ?c3 ?c4 ?c5 ?_))
                  case c1 =>
                    intro i u hi
                    match i, hi with
                    | 0, hi => simp at hi; subst hi; simp [Addr.add]
                  case c2 => intro u hu; simp at hu; subst hu; rfl
                  case c3 => unfold maxLen; omega
                  case c4 => omega
                  case c5 => have := HX2.out.lt; simp; omega
                  · intro v' w5 hown' hgrow _
                    have hl5 : w5.ownsRow (W0.heap.size + 1) 3 1 v' ((List.range (k + 1)).filter fun i => pk.contains i).length (ints ((List.range (k + 1)).filter fun i => pk.contains i)) := by rw [HF2.out]; simpa [ints] using hown'
                    have hb5 : Below W0.heap.size W0 w5 := below_app (owns_base hlo (Nat.le_succ _)) hgrow hbq2 hbq2.size
                    have hx5 : Bx W0.heap.size r (fun i => .bool (pk.contains i)) w5 := (HX2.out.alloc _).grown hgrow (by intro e; have := (hlo.lt _ e.symm).1; omega)
                    clear hown' hgrow hlo hbq2
                    go_wp2
                    go_roundw
                    case rel => exact ⟨k + 1, by go_num, by omega, hl5, hx5, hb5⟩
                    case measure => simp [intOf]; omega
                | false =>
                  rw [hp] at ck HFS
                  rw [if_neg (by simp)] at HFS
                  have hl5 : wr.ownsRow (W0.heap.size + 1) 3 1 (.slice al ((List.range k).filter fun i => pk.contains i).length capl) ((List.range (k + 1)).filter fun i => pk.contains i).length (ints ((List.range (k + 1)).filter fun i => pk.contains i)) := by rw [HFS]; exact hlo
                  have HL5 : Hid _ := hl5
                  clear HFS hbx2 hl5 hlo
                  go_wp2
                  go_roundw
                  case rel => exact ⟨k + 1, by go_num, by omega, HL5.out, HX2.out, hbq2⟩
                  case measure => simp [intOf]; omega
              · obtain rfl : k = r := by omega
                have HFIN : Hid (TrimPost s fu L w wr (.returned (.tuple #[.slice al ((List.range k).filter fun i => pk.contains i).length capl, .int .i64 0, .int .i64 0]))) := trim_fin HOK.out HLEN.out HPKS.out (HBr.out.trans (hbq2.mono HBr.out.size)) (owns_base hlo (Nat.le_succ_of_le HBr.out.size))
                clear hlo hbx2 hbq2
                go_wp2
                go_ret3
                exact HFIN.out
  · have hb : ((askP s fuel 0 L).1 == 0) = false := by simpa using h
    have HP : Hid (TrimPost s fuel L w w1 (.returned (.tuple #[.slice none 0 0, .int .i64 (askP s fuel 0 L).1, .int .i64 (askP s fuel 0 L).2]))) := ⟨HB.out, Or.inl ⟨h, rfl⟩⟩
    clear hcell hb1
    generalize (askP s fuel 0 L).1 = c at *
    generalize (askP s fuel 0 L).2 = p at *
    go_wp2
    go_ret3
    exact HP.out
end Go.Proofs.YtbmaiioecnmopaaGreatDoor

/-
  THE PROGRAM's SIDE (package triage): the memory of pick: the ways, and what stays. By the verifier of the loop 'triage'.
-/
namespace Go.Proofs.YtbmaiioecnmopaaGreatDoor
open Go.RowKit

/-- all blocks stay but one. -/
def Kg (g : Nat) (w w' : World) : Prop := w.grownBy w' (some g)
theorem Kg.refl (g : Nat) (w : World) : Kg g w w := ⟨rfl, rfl, rfl, Nat.le_refl _, fun _ _ _ => rfl⟩
theorem Kg.by {g : Nat} {w w1 w2 : World} {row : Option Nat} (h : Kg g w w1) (h2 : w1.grownBy w2 row) (hr : ∀ k, row = some k → k = g ∨ w.heap.size ≤ k) : Kg g w w2 :=
  ⟨h2.os.trans h.os, h2.tape.trans h.tape, h2.output.trans h.output, Nat.le_trans h.size h2.size, fun k hk hn =>
    (h2.block k (Nat.lt_of_lt_of_le hk h.size) (by intro e; rcases hr k e.symm with rfl | h'; exact hn rfl; omega)).trans (h.block k hk hn)⟩
theorem Kg.below {g : Nat} {w w1 w2 : World} (h : Kg g w w1) (hb : Below w1.heap.size w1 w2) : Kg g w w2 :=
  h.by (row := none) ⟨hb.os, hb.tape, hb.output, hb.size, fun k hk _ => hb.block k hk⟩ (by intro k e; cases e)
theorem Kg.alloc {g : Nat} {w w1 : World} (h : Kg g w w1) (o : Obj) : Kg g w (w1.alloc o) := h.below ((Below.refl _ _).alloc (Nat.le_refl _) _)
theorem gby_set {w : World} {b o : Nat} {v : Value} : w.grownBy (w.setCell ⟨b, o, none⟩ v) (some b) := by
  have h := ((Below.refl b w).setCell (p := ⟨b, o, none⟩) (Nat.le_refl _) v)
  refine ⟨h.os, h.tape, h.output, h.size, fun k hk hn => ?_⟩
  exact heap_setCell_other _ _ _ _ (by intro e; exact hn (by rw [e]))
theorem Kg.set {g : Nat} {w w1 : World} (h : Kg g w w1) {b o : Nat} {v : Value} (hb : b = g ∨ w.heap.size ≤ b) : Kg g w (w1.setCell ⟨b, o, none⟩ v) :=
  h.by gby_set (by intro k e; cases e; exact hb)
theorem Kg.drew {g : Nat} {w w1 : World} (h : Kg g w w1) : Kg g w w1.drew := ⟨h.os, h.tape, h.output, h.size, h.block⟩
theorem Kg.drewN {g : Nat} {w w1 : World} (h : Kg g w w1) (n : Nat) : Kg g w (w1.drewN n) := ⟨h.os, h.tape, h.output, h.size, h.block⟩
theorem Kg.to {g B : Nat} {w w1 : World} (h : Kg g w w1) (hB : B ≤ g) (hw : B ≤ w.heap.size) : Below B w w1 :=
  ⟨h.os, h.tape, h.output, h.size, fun k hk => h.block k (by omega) (by intro e; cases e; omega)⟩
theorem Kg.trans {g : Nat} {w w1 w2 : World} (h : Kg g w w1) (h2 : Kg g w1 w2) : Kg g w w2 := h.by h2 (by intro k e; cases e; exact Or.inl rfl)

/-- the cells of the ways: each one's length, and its row. -/
def wayC (Z : Nat → Nat) (V : Nat → Value) (o : Nat) : Value := if o % 2 = 0 then .int .i64 (Z (o / 2) : Nat) else V (o / 2)
theorem wayC_0 (Z : Nat → Nat) (V : Nat → Value) (i : Nat) : wayC Z V (i * 2) = .int .i64 (Z i : Nat) := by
  unfold wayC; rw [if_pos (by omega), show i * 2 / 2 = i from by omega]
theorem wayC_1 (Z : Nat → Nat) (V : Nat → Value) (i : Nat) : wayC Z V (i * 2 + 1) = V i := by
  unfold wayC; rw [if_neg (by omega), show (i * 2 + 1) / 2 = i from by omega]
/-- the ways, as they lie in memory. -/
structure Ways (B g n : Nat) (Z : Nat → Nat) (F : Nat → List Nat) (V : Nat → Value) (w : World) : Prop where
  blk : Bx g (2 * n) (wayC Z V) w
  rows : ∀ i, i < n → w.ownsRow B 3 1 (V i) (F i).length (ints (F i))
  ne : ∀ i, i < n → (V i).ownBlock ≠ some g
theorem Ways.grown {B g n : Nat} {Z : Nat → Nat} {F : Nat → List Nat} {V : Nat → Value} {w w' : World} {row : Option Nat} (h : Ways B g n Z F V w) (hg : w.grownBy w' row) (h1 : some g ≠ row) (h2 : ∀ i, i < n → (V i).ownBlock = none ∨ (V i).ownBlock ≠ row) : Ways B g n Z F V w' :=
  ⟨h.blk.grown hg h1, fun i hi => World.ownsRow.kept (h.rows i hi) hg (h2 i hi), h.ne⟩
theorem none_or (v : Value) : v.ownBlock = none ∨ v.ownBlock ≠ none := by cases v.ownBlock <;> simp
theorem Ways.below {B g n : Nat} {Z : Nat → Nat} {F : Nat → List Nat} {V : Nat → Value} {w w' : World} (h : Ways B g n Z F V w) (hb : Below w.heap.size w w') : Ways B g n Z F V w' :=
  h.grown (row := none) ⟨hb.os, hb.tape, hb.output, hb.size, fun k hk _ => hb.block k hk⟩ (by simp) (fun i _ => none_or _)
theorem Ways.lt {B g n : Nat} {Z : Nat → Nat} {F : Nat → List Nat} {V : Nat → Value} {w : World} (h : Ways B g n Z F V w) {i k : Nat} (hi : i < n) (hk : (V i).ownBlock = some k) : k < w.heap.size := (World.ownsRow.lt (h.rows i hi) k hk).2
theorem Ways.c0 {B g n : Nat} {Z : Nat → Nat} {F : Nat → List Nat} {V : Nat → Value} {w : World} (h : Ways B g n Z F V w) {i : Nat} (hi : i < n) : w.cell? ⟨g, i * 2, none⟩ = some (.int .i64 (Z i : Nat)) := (h.blk.cell _ (by omega)).trans (by rw [wayC_0])
theorem Ways.c1 {B g n : Nat} {Z : Nat → Nat} {F : Nat → List Nat} {V : Nat → Value} {w : World} (h : Ways B g n Z F V w) {i : Nat} (hi : i < n) : w.cell? ⟨g, i * 2 + 1, none⟩ = some (V i) := (h.blk.cell _ (by omega)).trans (by rw [wayC_1])
/-- a way's row is laid anew. -/
theorem Ways.put {B g n : Nat} {Z : Nat → Nat} {F : Nat → List Nat} {V : Nat → Value} {w : World} (h : Ways B g n Z F V w) {i : Nat} {u : Value} {l : List Nat} (hi : i < n) (hu : w.ownsRow B 3 1 u l.length (ints l)) (hg : u.ownBlock ≠ some g) :
    Ways B g n Z (fun k => if k = i then l else F k) (fun k => if k = i then u else V k) (w.setCell ⟨g, i * 2 + 1, none⟩ u) := by
  refine ⟨?_, ?_, ?_⟩
  · have hb := h.blk.set (i * 2 + 1) u (by omega)
    refine ⟨fun o ho => ?_, hb.frz, hb.lt⟩
    rw [hb.cell o ho]
    congr 1
    unfold updV wayC
    by_cases ho2 : o = i * 2 + 1
    · subst ho2
      rw [if_pos rfl, if_neg (by omega), show (i * 2 + 1) / 2 = i from by omega]
      simp
    · rw [if_neg ho2]
      by_cases h2 : o % 2 = 0
      · rw [if_pos h2, if_pos h2]
      · rw [if_neg h2, if_neg h2]; show V (o / 2) = if o / 2 = i then u else V (o / 2); rw [if_neg (by omega)]
  · intro k hk
    by_cases hki : k = i
    · subst hki
      rw [if_pos rfl, if_pos rfl]
      exact World.ownsRow.kept hu gby_set (Or.inr hg)
    · rw [if_neg hki, if_neg hki]
      exact World.ownsRow.kept (h.rows k hk) gby_set (Or.inr (h.ne k hk))
  · intro k hk
    by_cases hki : k = i
    · rw [if_pos hki]; exact hg
    · rw [if_neg hki]; exact h.ne k hk
end Go.Proofs.YtbmaiioecnmopaaGreatDoor

/-
  THE PROGRAM's SIDE (package triage): pick. By the verifier of the loop 'triage'.
-/
namespace Go.Proofs.YtbmaiioecnmopaaGreatDoor
open Go.RowKit

theorem fr_nil (l : List Nat) : Tr.fr [] l = l := by unfold Tr.fr; simp
def lenOf : Value → Nat
  | .slice _ n _ => n
  | _ => 0
/-- the best way so far. -/
def bwZ (Z : Nat → Nat) : Option Nat → Nat
  | none => 0
  | some j => Z j
def bwV (V : Nat → Value) : Option Nat → Value
  | none => .slice none 0 0
  | some j => V j
def bwN : Option Nat → Nat
  | none => 0
  | some j => j
def bwC (Z : Nat → Nat) (V : Nat → Value) (c : Option Nat) (o : Nat) : Value := if o = 0 then .int .i64 (bwZ Z c : Nat) else bwV V c
theorem beats_bt (E : Nat → List Nat) (Z : Nat → Nat) (met : List Nat) (c : Option Nat) (i : Nat) : btB (Z i) (Tr.fr met (E i)).length (bwZ Z c) (mostI E met c) = Tr.beats E Z met c i := by
  cases c with
  | none => show decide (0 < _ ∨ _ = 0 ∧ _ < 0) = decide _; apply decide_eq_decide.2; omega
  | some j => rfl
theorem bwV_shape {B g n : Nat} {Z : Nat → Nat} {E : Nat → List Nat} {met : List Nat} {V : Nat → Value} {w : World} (h : Ways B g n Z (fun i => Tr.fr met (E i)) V w) (c : Option Nat) (hc : ∀ j, c = some j → j < n) : ∃ a cap, bwV V c = .slice a (mostI E met c) cap := by
  cases c with
  | none => exact ⟨none, 0, rfl⟩
  | some j =>
    obtain ⟨a, cap, hv, -⟩ := owns_shape (h.rows j (hc j rfl))
    exact ⟨a, cap, hv⟩

set_option maxHeartbeats 1600000 in
set_option maxRecDepth 100000 in
theorem pick_any (B g n : Nat) (E : Nat → List Nat) (Z : Nat → Nat) (V : Nat → Value) (w : World) (hn : n ≤ 12) (hE : ∀ i, (E i).length ≤ 400) (hBg : B ≤ g) (hW : Ways B g n Z E V w) :
    Calls Tryz.prog 35 #[.slice (some ⟨g, 0, none⟩) n n] w fun e w' => ∃ v, e = .returned v ∧ w'.ownsRow B 3 1 v (Tr.ans E Z n).length (ints (Tr.ans E Z n)) ∧ Below B w w' := by
  obtain ⟨i0, hi, hz0, hz1, hz2⟩ := info_parts Tryz.infoInt
  have HW : Hid (Ways B g n Z E V w) := hW
  have hgw := hW.blk.lt
  clear hW
  go_enter Tryz.func35, Tryz.ntmps35
  go_wp2
  go_loopw [3] (fun pv wr => ∃ met pk V', Tr.Pk E n met pk ∧ Tr.fin E Z n (Tr.cnt E met n) met pk = Tr.picks E Z n ∧ Ways B g n Z (fun i => Tr.fr met (E i)) V' wr ∧ wr.ownsRow w.heap.size 3 1 pv pk.length (ints pk) ∧ (∀ i, i < n → ∀ k, pv.ownBlock = some k → (V' i).ownBlock ≠ some k) ∧ Kg g w wr) (fun pv _ => n - lenOf pv)
  case atStart => exact ⟨[], [], V, Tr.pk_start _ _, rfl, (by simpa only [fr_nil] using HW.out), World.ownsRow_nil _ _ _ _, (by intro i _ k e; cases e), Kg.refl _ _⟩
  case round =>
    obtain ⟨met, pk, V1, hPk, hfin, hWy, hpv, hne, hK⟩ := hrel
    obtain ⟨ap, cp, hvp, -, -, -⟩ := owns_shape hpv
    subst hvp
    obtain ⟨W1, rfl⟩ : ∃ W1, W1 = wr := ⟨_, rfl⟩
    have HPK : Hid (Tr.Pk E n met pk) := hPk
    have HFIN : Hid (Tr.fin E Z n (Tr.cnt E met n) met pk = Tr.picks E Z n) := hfin
    have HWY : Hid (Ways B g n Z (fun i => Tr.fr met (E i)) V1 W1) := hWy
    have HPV : Hid (W1.ownsRow w.heap.size 3 1 (.slice ap pk.length cp) pk.length (ints pk)) := hpv
    have HNE : Hid (∀ i, i < n → ∀ k, (Value.slice ap pk.length cp).ownBlock = some k → (V1 i).ownBlock ≠ some k) := hne
    have HK : Hid (Kg g w W1) := hK
    have hpl : pk.length ≤ n := nodup_len hPk.nd hPk.lt
    have hg1 : g < W1.heap.size := hWy.blk.lt
    clear hPk hfin hWy hpv hne hK
    go_wp2
    go_loopw [5, 13] (fun nv iv wz => ∃ k : Nat, iv = .int .i64 k ∧ k ≤ n ∧ nv = .int .i64 (bwN (Tr.sel E Z met k) : Nat) ∧ Bx W1.heap.size 2 (bwC Z V1 (Tr.sel E Z met k)) wz ∧ Below W1.heap.size W1 wz) (fun _ iv _ => n - (intOf iv).toNat)
    case atStart =>
      refine ⟨0, rfl, by omega, rfl, ?_, (Below.refl _ _).alloc (Nat.le_refl _) _⟩
      have c1 := rheap_new W1 (.cells #[.int .i64 0, .slice none 0 0] 95)
      refine ⟨?_, fun o => rfree_of c1, by simp⟩
      intro o ho
      obtain rfl | rfl : o = 0 ∨ o = 1 := by omega
      · exact rcell_of c1 rfl
      · exact rcell_of c1 rfl
    case round =>
      obtain ⟨k, rfl, hk, rfl, hbx, hbz⟩ := hrel
      have hsz := hbx.lt
      by_cases hkn : k < n
      · have c0 := (hbz.cell (p := ⟨g, k * 2, none⟩) hg1).trans (HWY.out.c0 hkn)
        have c1 := (hbz.cell (p := ⟨g, k * 2 + 1, none⟩) hg1).trans (HWY.out.c1 hkn)
        obtain ⟨ak, ck, hvk, -⟩ := owns_shape (HWY.out.rows k hkn)
        have b0 := hbx.cell 0 (by omega)
        have b1 := hbx.cell 1 (by omega)
        have HSEL : Hid (Tr.sel E Z met (k + 1) = if Tr.beats E Z met (Tr.sel E Z met k) k then some k else Tr.sel E Z met k) := rfl
        have HBT := beats_bt E Z met (Tr.sel E Z met k) k
        obtain ⟨ab, cb, hvb⟩ := bwV_shape HWY.out (Tr.sel E Z met k) (fun j hj => Nat.lt_of_lt_of_le (Tr.sel_some hj).1 hk)
        have hb0 : bwC Z V1 (Tr.sel E Z met k) 0 = .int .i64 (bwZ Z (Tr.sel E Z met k) : Nat) := rfl
        have hb1 : bwC Z V1 (Tr.sel E Z met k) 1 = .slice ab (mostI E met (Tr.sel E Z met k)) cb := by rw [← hvb]; rfl
        rw [hb0] at b0
        rw [hb1] at b1
        rw [hvk] at c1
        have HBX : Hid (Bx W1.heap.size 2 (bwC Z V1 (Tr.sel E Z met k)) wr) := hbx
        have HBZ : Hid (Below W1.heap.size W1 wr) := hbz
        have HVK : Hid (V1 k = .slice ak (Tr.fr met (E k)).length ck) := hvk
        clear hb0 hb1 hbx hbz hvk hvb
        generalize Tr.sel E Z met k = c at *
        go_wp2_with fail
        refine (beats_any _ _ _ _ _ _ _ _ _).mono ?_
        rintro e w2 ⟨rfl, hb2⟩
        rw [HBT]
        have hz2 : wr.heap.size < w2.heap.size := by have := hb2.size; simp at this; omega
        have HB2 : Hid (Below wr.heap.size wr w2) := below_new hb2
        have e2 := (hb2.block wr.heap.size (by simp)).trans (rheap_new _ _)
        have y0 : w2.cell? ⟨wr.heap.size, 0, none⟩ = some (.int .i64 (Z k : Nat)) := rcell_of e2 rfl
        have y1 : w2.cell? ⟨wr.heap.size, 1, none⟩ = some (.slice ak (Tr.fr met (E k)).length ck) := rcell_of e2 rfl
        have hbx2 := bx_below HBX.out HB2.out
        have z0 := hbx2.cell 0 (by omega)
        have z1 := hbx2.cell 1 (by omega)
        have zf := hbx2.frz
        have HBX2 : Hid (Bx W1.heap.size 2 (bwC Z V1 c) w2) := hbx2
        clear hb2 e2 hbx2 c0 c1 b0 b1 HBX
        cases hbt : Tr.beats E Z met c k with
        | true =>
          rw [hbt, if_pos rfl] at HSEL
          go_wp2
          go_roundw
          case rel =>
            refine ⟨k + 1, by go_num, by omega, by rw [HSEL.out]; rfl, ?_, ?_⟩
            · rw [HSEL.out]
              have := (HBX2.out.set 0 (.int .i64 (Z k : Nat)) (by omega)).set 1 (.slice ak (Tr.fr met (E k)).length ck) (by omega)
              refine bx_congr this ?_
              intro o ho
              obtain rfl | rfl : o = 0 ∨ o = 1 := by omega
              · rfl
              · show _ = V1 k; rw [HVK.out]; rfl
            · exact (((HBZ.out.trans (HB2.out.mono HBZ.out.size)).setCell (p := ⟨W1.heap.size, 0, none⟩) (Nat.le_refl _) _).setCell (p := ⟨W1.heap.size, 1, none⟩) (Nat.le_refl _) _)
          case measure => simp [intOf]; omega
        | false =>
          rw [hbt, if_neg (by simp)] at HSEL
          go_wp2
          go_roundw
          case rel => exact ⟨k + 1, by go_num, by omega, by rw [HSEL.out], by rw [HSEL.out]; exact HBX2.out, HBZ.out.trans (HB2.out.mono HBZ.out.size)⟩
          case measure => simp [intOf]; omega
      · obtain rfl : k = n := by omega
        obtain ⟨W2, rfl⟩ : ∃ W2, W2 = wr := ⟨_, rfl⟩
        have HBX : Hid (Bx W1.heap.size 2 (bwC Z V1 (Tr.sel E Z met k)) W2) := hbx
        have HBZ : Hid (Below W1.heap.size W1 W2) := hbz
        have HWZ : Hid (Ways B g k Z (fun i => Tr.fr met (E i)) V1 W2) := HWY.out.below HBZ.out
        have HPZ : Hid (W2.ownsRow w.heap.size 3 1 (.slice ap pk.length cp) pk.length (ints pk)) := owns_kept HPV.out HBZ.out
        have HKZ : Hid (Kg g w W2) := HK.out.below HBZ.out
        have hws : w.heap.size ≤ W1.heap.size := HK.out.size
        have b0 := hbx.cell 0 (by omega)
        have b1 := hbx.cell 1 (by omega)
        cases hs : Tr.sel E Z met k with
        | none =>
          rw [hs] at b0 b1
          have hb0 : bwC Z V1 none 0 = .int .i64 0 := rfl
          have hb1 : bwC Z V1 none 1 = .slice none 0 0 := rfl
          rw [hb0] at b0
          rw [hb1] at b1
          clear hbx hbz
          have HANS : Hid (srt pk = Tr.ans E Z k) := by
            show srt pk = Tr.ans E Z k
            have h1 : Tr.picks E Z k = (met, pk) := HFIN.out.symm.trans (Tr.fin_end hs _)
            rw [← srt_ans, h1]
          have HSL : Hid ((srt pk).length = pk.length) := List.length_mergeSort _
          go_wp2_with fail
          refine (sort_row w.heap.size _ pk _ (by omega) HPZ.out).mono ?_
          rintro e w3 ⟨rfl, h3, hg3⟩
          have HF : Hid (w3.ownsRow B 3 1 (.slice ap pk.length cp) (Tr.ans E Z k).length (ints (Tr.ans E Z k))) := by
            show w3.ownsRow B 3 1 (.slice ap pk.length cp) (Tr.ans E Z k).length (ints (Tr.ans E Z k))
            rw [← HANS.out, HSL.out]
            exact owns_base h3 (by omega)
          have HB3 : Hid (Below B w w3) := (HKZ.out.by hg3 (fun q hq => Or.inr (HPZ.out.lt q hq).1)).to hBg (by omega)
          clear h3 hg3
          go_wp2
          go_ret
          exact ⟨_, rfl, HF.out, HB3.out⟩
        | some j =>
          rw [hs] at b0 b1
          have hsel := Tr.sel_some hs
          have hjn := hsel.1
          have hpos := hsel.2
          obtain ⟨aj, cj, hvj, -⟩ := owns_shape (HWZ.out.rows j hjn)
          have hb1 : bwC Z V1 (some j) 1 = .slice aj (Tr.fr met (E j)).length cj := hvj
          rw [hb1] at b1
          have hb0 : bwC Z V1 (some j) 0 = .int .i64 (Z j : Nat) := rfl
          rw [hb0] at b0
          have HVJ : Hid (V1 j = .slice aj (Tr.fr met (E j)).length cj) := hvj
          have hnz : (((Tr.fr met (E j)).length : Nat) : Int) ≠ 0 := by omega
          have HNJ : Hid (bwN (some j) = j) := rfl
          rw [HNJ.out]
          have HPK2 : Hid (Tr.Pk E k (met ++ E j) (pk ++ [j])) := Tr.pk_step HPK.out hs
          have hpl2 : (pk ++ [j]).length ≤ k := nodup_len HPK2.out.nd HPK2.out.lt
          have HFIN2 : Hid (Tr.fin E Z k (Tr.cnt E (met ++ E j) k) (met ++ E j) (pk ++ [j]) = Tr.picks E Z k) := (Tr.fin_step hs).symm.trans HFIN.out
          rw [List.length_append, List.length_singleton] at hpl2
          clear hbx hbz hb1 hb0 hvj hsel
          go_wp2_with (at_builtin; go_loud (refine wpList_append_fresh rfl _ _ 32 rfl w.heap.size 3 i0 (.int .i64 0) 1 8 Tryz.undInts hi hz0 hz1 hz2 rfl (by decide) _ _ _ rfl (HPZ.out.alloc _) ⟨W2.heap.size, 0, none⟩ 1 1 [.int .i64 (j : Nat)] rfl rfl ?c1 ?c2 ?c3 ?c4 ?c5 ?_))
          case c1 =>
            intro i u hi
            match i, hi with
            | 0, hi => simp at hi; subst hi; simp [Addr.add]
          case c2 => intro u hu; simp at hu; subst hu; rfl
          case c3 => unfold maxLen; omega
          case c4 => omega
          case c5 => have := HKZ.out.size; simp; omega
          intro v' w4 hown' hgrow hfr
          have hgr4 : W2.grownBy w4 (Value.slice ap pk.length cp).ownBlock := World.grownBy.trans (World.grownBy_alloc _ _ _) hgrow
          have hpb : ∀ q, (Value.slice ap pk.length cp).ownBlock = some q → w.heap.size ≤ q ∧ q < W1.heap.size := fun q hq => HPV.out.lt q hq
          have HW4 : Hid (Ways B g k Z (fun i => Tr.fr met (E i)) V1 w4) := HWZ.out.grown hgr4 (by intro e; have := (hpb g e.symm).1; omega) (fun i hi' => by
            rcases hx : (V1 i).ownBlock with _ | q
            · exact Or.inl rfl
            · exact Or.inr (fun e => HNE.out i hi' q e.symm hx))
          have HX4 : Hid (Bx W1.heap.size 2 (bwC Z V1 (some j)) w4) := (hs ▸ HBX.out).grown hgr4 (by intro e; have := (hpb _ e.symm).2; omega)
          have HP4 : Hid (w4.ownsRow w.heap.size 3 1 v' (pk ++ [j]).length (ints (pk ++ [j]))) := by
            show w4.ownsRow w.heap.size 3 1 v' (pk ++ [j]).length (ints (pk ++ [j]))
            rw [List.length_append]; simpa [ints] using hown'
          have HN4 : Hid (∀ i, i < k → ∀ q, v'.ownBlock = some q → (V1 i).ownBlock ≠ some q) := by
            intro i hi' q hq hvi
            rcases hfr q hq with h | h
            · exact HNE.out i hi' q h hvi
            · have := HWZ.out.lt hi' hvi
              simp at h
              omega
          have HK4 : Hid (Kg g w w4) := HKZ.out.by hgr4 (fun q hq => Or.inr (hpb q hq).1)
          have hg4 : g < w4.heap.size := HW4.out.blk.lt
          have HL2 : Hid ((pk ++ [j]).length = pk.length + 1) := by
            show (pk ++ [j]).length = pk.length + 1
            rw [List.length_append, List.length_singleton]
          generalize pk ++ [j] = pk2 at *
          obtain ⟨a4, c4, hv4, -⟩ := owns_shape HP4.out
          subst hv4
          clear hown' hgrow hfr hgr4 hpb b0 b1
          go_wp2
          go_loopw [37] (fun iv wz => ∃ (m : Nat) (V2 : Nat → Value), iv = .int .i64 m ∧ m ≤ k ∧ Ways B g k Z (fun i => if i < m then Tr.fr (met ++ E j) (E i) else Tr.fr met (E i)) V2 wz ∧ wz.ownsRow B 3 1 (V1 j) (Tr.fr met (E j)).length (ints (Tr.fr met (E j))) ∧ Bx W1.heap.size 2 (bwC Z V1 (some j)) wz ∧ wz.ownsRow w.heap.size 3 1 (.slice a4 pk2.length c4) pk2.length (ints pk2) ∧ (∀ i, i < k → ∀ q, (Value.slice a4 pk2.length c4).ownBlock = some q → (V2 i).ownBlock ≠ some q) ∧ Kg g w wz) (fun iv _ => k - (intOf iv).toNat)
          case atStart => exact ⟨0, V1, rfl, by omega, by simpa using HW4.out, HW4.out.rows j hjn, HX4.out, HP4.out, HN4.out, HK4.out⟩
          case round =>
            obtain ⟨m, V2, rfl, hm, hw5, hr5, hx5, hp5, hn5, hk5⟩ := hrel
            by_cases hmk : m < k
            · have c0 := hw5.c0 hmk
              have c1 := hw5.c1 hmk
              have hrm := hw5.rows m hmk
              rw [if_neg (Nat.lt_irrefl m)] at hrm
              obtain ⟨am, cm, hvm, -⟩ := owns_shape hrm
              have z1 := hx5.cell 1 (by omega)
              have hb1 : bwC Z V1 (some j) 1 = .slice aj (Tr.fr met (E j)).length cj := HVJ.out
              rw [hb1] at z1
              rw [hvm] at c1
              have HW5 : Hid (Ways B g k Z (fun i => if i < m then Tr.fr (met ++ E j) (E i) else Tr.fr met (E i)) V2 wr) := hw5
              have HR5 : Hid (wr.ownsRow B 3 1 (.slice aj (Tr.fr met (E j)).length cj) (Tr.fr met (E j)).length (ints (Tr.fr met (E j)))) := by rw [← HVJ.out]; exact hr5
              have HX5 : Hid (Bx W1.heap.size 2 (bwC Z V1 (some j)) wr) := hx5
              have HP5 : Hid (wr.ownsRow w.heap.size 3 1 (.slice a4 pk2.length c4) pk2.length (ints pk2)) := hp5
              have HN5 : Hid (∀ i, i < k → ∀ q, (Value.slice a4 pk2.length c4).ownBlock = some q → (V2 i).ownBlock ≠ some q) := hn5
              have HK5 : Hid (Kg g w wr) := hk5
              have HRM : Hid (wr.ownsRow B 3 1 (.slice am (Tr.fr met (E m)).length cm) (Tr.fr met (E m)).length (ints (Tr.fr met (E m)))) := by rw [← hvm]; exact hrm
              have hgl := hw5.blk.lt
              have hxl := hx5.lt
              have hgf := hw5.blk.frz
              clear hw5 hr5 hx5 hp5 hn5 hk5 hrm hvm hb1
              go_wp2_with fail
              refine (lacking_any B B _ _ (Tr.fr met (E m)) (Tr.fr met (E j)) _ (fr_le hE met m) (HRM.out.alloc _) (HR5.out.alloc _)).mono ?_
              rintro e w6 ⟨u, rfl, hu, hb6⟩
              have hb7 : Below wr.heap.size wr w6 := below_new hb6
              have hsz6 : wr.heap.size < w6.heap.size := by have := hb6.size; simp at this; omega
              have hu2 := owns_base (base' := B) hu (by simp; omega)
              rw [Tr.fr_fresh] at hu2 hu
              have hub : ∀ q, u.ownBlock = some q → wr.heap.size < q := fun q hq => by have := (hu.lt q hq).1; simp at this; omega
              obtain ⟨au, cu, hvu, -⟩ := owns_shape hu
              subst hvu
              have HW6 : Hid (Ways B g k Z (fun i => if i < m then Tr.fr (met ++ E j) (E i) else Tr.fr met (E i)) V2 w6) := HW5.out.below hb7
              have HF : Hid ((fun i => if i = m then Tr.fr (met ++ E j) (E m) else if i < m then Tr.fr (met ++ E j) (E i) else Tr.fr met (E i)) = fun i => if i < m + 1 then Tr.fr (met ++ E j) (E i) else Tr.fr met (E i)) := by
                funext i
                by_cases h1 : i = m
                · subst h1; rw [if_pos rfl, if_pos (by omega)]
                · rw [if_neg h1]
                  by_cases h2 : i < m
                  · rw [if_pos h2, if_pos (by omega)]
                  · rw [if_neg h2, if_neg (by omega)]
              have HW7 : Hid (Ways B g k Z (fun i => if i < m + 1 then Tr.fr (met ++ E j) (E i) else Tr.fr met (E i)) (fun i => if i = m then .slice au (Tr.fr (met ++ E j) (E m)).length cu else V2 i) (w6.setCell ⟨g, m * 2 + 1, none⟩ (.slice au (Tr.fr (met ++ E j) (E m)).length cu))) := by
                have := HW6.out.put hmk hu2 (by intro e; have := hub g e; omega)
                rw [HF.out] at this
                exact this
              have HR7 : Hid ((w6.setCell ⟨g, m * 2 + 1, none⟩ (.slice au (Tr.fr (met ++ E j) (E m)).length cu)).ownsRow B 3 1 (V1 j) (Tr.fr met (E j)).length (ints (Tr.fr met (E j)))) := by
                rw [HVJ.out]
                exact World.ownsRow.kept (owns_kept HR5.out hb7) gby_set (Or.inr (by rw [← HVJ.out]; exact HWY.out.ne j hjn))
              have HX7 : Hid (Bx W1.heap.size 2 (bwC Z V1 (some j)) (w6.setCell ⟨g, m * 2 + 1, none⟩ (.slice au (Tr.fr (met ++ E j) (E m)).length cu))) := bx_other (bx_below HX5.out hb7) (by omega)
              have HP7 : Hid ((w6.setCell ⟨g, m * 2 + 1, none⟩ (.slice au (Tr.fr (met ++ E j) (E m)).length cu)).ownsRow w.heap.size 3 1 (.slice a4 pk2.length c4) pk2.length (ints pk2)) :=
                World.ownsRow.kept (owns_kept HP5.out hb7) gby_set (Or.inr (by intro e; have := (HP5.out.lt g e).1; omega))
              have HN7 : Hid (∀ i, i < k → ∀ q, (Value.slice a4 pk2.length c4).ownBlock = some q → ((fun i => if i = m then Value.slice au (Tr.fr (met ++ E j) (E m)).length cu else V2 i) i).ownBlock ≠ some q) := by
                intro i hi' q hq
                dsimp only
                by_cases h1 : i = m
                · rw [if_pos h1]; intro e; have := hub q e; have := (HP5.out.lt q hq).2; omega
                · rw [if_neg h1]; exact HN5.out i hi' q hq
              have HK7 : Hid (Kg g w (w6.setCell ⟨g, m * 2 + 1, none⟩ (.slice au (Tr.fr (met ++ E j) (E m)).length cu))) := (HK5.out.below hb7).set (Or.inl rfl)
              have d1 := HW6.out.c1 hmk
              have df := HW6.out.blk.frz
              clear hu hu2 hb6 hub hb7 c0 c1 z1 hgf
              go_wp2
              go_roundw
              case rel => exact ⟨m + 1, _, by go_num, by omega, HW7.out, HR7.out, HX7.out, HP7.out, HN7.out, HK7.out⟩
              case measure => simp [intOf]; omega
            · obtain rfl : m = k := by omega
              have HW8 : Hid (Ways B g m Z (fun i => Tr.fr (met ++ E j) (E i)) V2 wr) := by
                refine ⟨hw5.blk, fun i hi' => ?_, hw5.ne⟩
                have := hw5.rows i hi'
                rw [if_pos hi'] at this
                exact this
              have HP8 : Hid (wr.ownsRow w.heap.size 3 1 (.slice a4 pk2.length c4) pk2.length (ints pk2)) := hp5
              have HN8 : Hid (∀ i, i < m → ∀ q, (Value.slice a4 pk2.length c4).ownBlock = some q → (V2 i).ownBlock ≠ some q) := hn5
              have HK8 : Hid (Kg g w wr) := hk5
              clear hw5 hr5 hx5 hp5 hn5 hk5
              go_wp2
              go_roundw
              case rel => exact ⟨met ++ E j, pk2, V2, HPK2.out, HFIN2.out, HW8.out, HP8.out, HN8.out, HK8.out⟩
              case measure => have := HL2.out; simp [lenOf]; omega
end Go.Proofs.YtbmaiioecnmopaaGreatDoor

/-
  THE PROGRAM's SIDE (package triage): Trim. By the verifier of the loop 'triage'.
-/
namespace Go.Proofs.YtbmaiioecnmopaaGreatDoor
open Go.RowKit

theorem Tryz.infoWay : (Tryz.prog.info? 95).map (fun i => (i.zero, i.size, i.bytes)) = some (some (.agg #[.int .i64 0, .slice none 0 0]), 2, 32) := by kernel_rfl
theorem Tryz.undWays : Tryz.prog.underlying 92 = some (.slice 95) := by kernel_rfl
theorem bx_of_owns2 {w : World} {base g n cap c size : Nat} {e : TypeId} {xs : List Value} {M : Nat → Value} (h : w.ownsRow base e size (.slice (some ⟨g, 0, none⟩) n cap) n xs) (hx : ∀ i, i < c → xs[i]? = some (M i)) : Bx g c M w := by
  have hc := h.cells (g := g) rfl
  obtain ⟨-, ⟨hv, -⟩ | ⟨g', c', cur, hv, -, hg, -⟩⟩ := h
  · cases hv
  · cases hv
    exact ⟨fun i hi => by have := hc i _ (hx i hi); rwa [addr_add] at this, fun _ => rfree_of hg, (Array.getElem?_eq_some_iff.1 hg).1⟩
theorem Ways.congr {B g n : Nat} {Z Z' : Nat → Nat} {F F' : Nat → List Nat} {V : Nat → Value} {w : World} (h : Ways B g n Z F V w) (hZ : ∀ i, i < n → Z i = Z' i) (hF : ∀ i, i < n → F i = F' i) : Ways B g n Z' F' V w := by
  refine ⟨bx_congr h.blk ?_, fun i hi => hF i hi ▸ h.rows i hi, h.ne⟩
  intro o ho
  unfold wayC
  rw [hZ _ (by omega)]
/-- a way is laid. -/
theorem Ways.lay {B g n : Nat} {Z : Nat → Nat} {F : Nat → List Nat} {V : Nat → Value} {w : World} (h : Ways B g n Z F V w) {i z : Nat} {u : Value} {l : List Nat} (hi : i < n) (hu : w.ownsRow B 3 1 u l.length (ints l)) (hg : u.ownBlock ≠ some g) :
    Ways B g n (fun k => if k = i then z else Z k) (fun k => if k = i then l else F k) (fun k => if k = i then u else V k) ((w.setCell ⟨g, i * 2, none⟩ (.int .i64 (z : Nat))).setCell ⟨g, i * 2 + 1, none⟩ u) := by
  have h1 : Ways B g n (fun k => if k = i then z else Z k) F V (w.setCell ⟨g, i * 2, none⟩ (.int .i64 (z : Nat))) := by
    refine ⟨?_, fun k hk => World.ownsRow.kept (h.rows k hk) gby_set (Or.inr (h.ne k hk)), h.ne⟩
    have hb := h.blk.set (i * 2) (.int .i64 (z : Nat)) (by omega)
    refine bx_congr hb ?_
    intro o ho
    unfold updV wayC
    by_cases ho2 : o = i * 2
    · subst ho2
      rw [if_pos rfl, if_pos (by omega), show i * 2 / 2 = i from by omega]; show _ = Value.int .i64 ((if i = i then z else Z i : Nat) : Int); rw [if_pos rfl]
    · rw [if_neg ho2]
      by_cases h2 : o % 2 = 0
      · rw [if_pos h2, if_pos h2]; show _ = Value.int .i64 ((if o / 2 = i then z else Z (o / 2) : Nat) : Int); rw [if_neg (by omega)]
      · rw [if_neg h2, if_neg h2]
  exact h1.put hi (World.ownsRow.kept hu gby_set (Or.inr hg)) hg

set_option maxRecDepth 100000 in
theorem field_edges (f0 f1 f2 f3 f4 f5 f6 f7 : Value) (w : World) : (Instr.field 39 (.agg #[f0, f1, f2, f3, f4, f5, f6, f7]) 3).run Tryz.prog w = .ok f5 w := by kernel_rfl

set_option maxHeartbeats 1600000 in
set_option maxRecDepth 100000 in
theorem codeTrim_any (s : ByteArray) (fuel : Int) (L : List ByteArray) (v : Value) (w : World) (hG : Glob w) (hI : Ins L v w) :
    Calls Tryz.prog 17 #[.string s, .int .i64 fuel, v] w fun e w' => TrimPost s fuel L w w' e := by
  obtain ⟨iW, hiW, hW0, hW1, hW2⟩ := info_parts Tryz.infoWay
  have HG : Hid (Glob w) := hG
  have HI : Hid (Ins L v w) := hI
  obtain ⟨a, cap, rfl, hcap, hmax, hcell, -⟩ := hI
  unfold maxLen at hmax
  obtain ⟨len, HLEN⟩ : ∃ len, Hid (L.length = len) := ⟨_, rfl⟩
  rw [HLEN.out] at hcap hcell HI
  rw [HLEN.out]
  clear hG
  go_enter Tryz.func17, Tryz.ntmps17
  go_wp2_with fail
  refine (setUp_any s fuel 0 L _ _ HG.out HI.out).mono ?_
  rintro e w1 ⟨hb1, (⟨hne, rfl⟩ | ⟨hok, bp, bs, bc, cs, rfl, hM, hcs, hcm⟩)⟩
  · have HB : Hid (Below w.heap.size w w1) := hb1
    have hb : ((askP s fuel 0 L).1 == 0) = false := by simpa using hne
    have HP : Hid (∀ o, TrimPost s fuel L w (w1.alloc o) (.returned (.tuple #[.slice none 0 0, .int .i64 (askP s fuel 0 L).1, .int .i64 (askP s fuel 0 L).2]))) := fun o => ⟨HB.out.alloc HB.out.size _, Or.inl ⟨hne, rfl⟩⟩
    clear hb1 hcell
    generalize (askP s fuel 0 L).1 = c at *
    generalize (askP s fuel 0 L).2 = p at *
    go_wp2
    go_ret3
    exact HP.out _
  · have HB : Hid (Below w.heap.size w w1) := hb1
    have HOK : Hid (AskOk s fuel 0 L) := hok
    obtain ⟨fu, rfl⟩ : ∃ fu : Nat, fuel = (fu : Int) := ⟨fuel.toNat, by have := HOK.out.fu; omega⟩
    have hf : fu ≤ 2000 := by have := HOK.out.fu; omega
    have hc := HOK.out.chk
    have hn : len ≤ 12 := by have := HOK.out.n; have := HLEN.out; omega
    have HSM : Hid (SetM s fu 0 w1.heap.size (w1.alloc (.cells #[.slice (some ⟨bs, 0, none⟩) (Im.bt s 0 + 1) cs, .slice (some ⟨bc, 0, none⟩) s.size s.size, .int .i64 (fu : Nat), .int .i64 ((0 : Nat) : Int)] 66))) := ⟨bp, bs, bc, cs, hM.below ((Below.refl _ _).alloc (Nat.le_refl _) _), hcs, hcm, rheap_new _ _⟩
    have hcell1 : 0 < len → ∃ g o, a = some ⟨g, o, none⟩ ∧ g < w.heap.size ∧ ∀ i, i < len → w.cell? ⟨g, o + i, none⟩ = some (.string (L[i]?.getD ByteArray.empty)) := hcell
    clear hb1 hM hok hcell
    go_wp2_with (at_make; go_loud (refine wpList_make_full _ rfl _ _ 92 rfl (w1.heap.size + 1) 95 iW (.agg #[.int .i64 0, .slice none 0 0]) 2 Tryz.undWays hiW hW0 hW1 _ _ _ _ len rfl rfl (by omega) (by omega) (by rw [hW2]; omega) (by unfold maxLen; omega) (by simp) ?_))
    intro w4 hpk hgr
    obtain ⟨W0, HW0⟩ : ∃ W0, Hid (w1.alloc (.cells #[.slice (some ⟨bs, 0, none⟩) (Im.bt s 0 + 1) cs, .slice (some ⟨bc, 0, none⟩) s.size s.size, .int .i64 (fu : Nat), .int .i64 0] 66) = W0) := ⟨_, rfl⟩
    have hz0 : W0.heap.size = w1.heap.size + 1 := by rw [← HW0.out]; simp
    have HS0 : Hid (SetM s fu 0 w1.heap.size W0) := by rw [← HW0.out]; exact HSM.out
    have HB0 : Hid (Below w.heap.size w W0) := by rw [← HW0.out]; exact HB.out.alloc HB.out.size _
    rw [HW0.out] at hgr
    have HB4 : Hid (Below W0.heap.size W0 w4) := ⟨hgr.os, hgr.tape, hgr.output, hgr.size, fun k hk => hgr.block k hk (by simp)⟩
    have HWY : Hid (Ways (w1.heap.size + 1) (w1.heap.size + 1) len (fun i => if i < 0 then lenI L i else 0) (fun i => if i < 0 then edg s fu L i else []) (fun _ => .slice none 0 0) w4) := by
      refine ⟨bx_of_owns2 hpk ?_, fun i _ => World.ownsRow_nil _ _ _ _, fun i _ => by intro e; cases e⟩
      intro i hi
      unfold wayC
      rcases Nat.mod_two_eq_zero_or_one i with h2 | h2
      · have hi2 : i < len * 2 := by omega
        simp [madeCells, h2, hi2]
      · have hi2 : i < len * 2 := by omega
        simp [madeCells, h2, hi2]
    clear hpk hgr HSM HW0
    go_wp2
    go_loopw [32] (fun iv wr => ∃ (j : Nat) (V : Nat → Value), iv = .int .i64 j ∧ j ≤ len ∧ Ways (w1.heap.size + 1) (w1.heap.size + 1) len (fun i => if i < j then lenI L i else 0) (fun i => if i < j then edg s fu L i else []) V wr ∧ Below W0.heap.size W0 wr) (fun iv _ => len - (intOf iv).toNat)
    case atStart => exact ⟨0, _, rfl, by omega, HWY.out, HB4.out⟩
    case round =>
      obtain ⟨j, V, rfl, hj, hWy, hb⟩ := hrel
      by_cases hlt : j < len
      · obtain ⟨g, o, rfl, hg, hcc⟩ := hcell1 (by omega)
        have hg0 : g < W0.heap.size := Nat.lt_of_lt_of_le hg HB0.out.size
        have hcj := (hb.cell (p := ⟨g, o + j, none⟩) hg0).trans ((HB0.out.cell (p := ⟨g, o + j, none⟩) hg).trans (hcc j hlt))
        have hsj : (L[j]?.getD ByteArray.empty).size ≤ 24 := by
          have hjl : j < L.length := by rw [HLEN.out]; exact hlt
          rw [List.getElem?_eq_getElem hjl]; exact HOK.out.sz _ (List.getElem_mem hjl)
        have HED : Hid (edg s fu L j = (rep s fu (L[j]?.getD ByteArray.empty)).eds) := rfl
        have HLI : Hid (lenI L j = (L[j]?.getD ByteArray.empty).size) := rfl
        generalize L[j]?.getD ByteArray.empty = x at *
        have HWr : Hid (Ways (w1.heap.size + 1) (w1.heap.size + 1) len (fun i => if i < j then lenI L i else 0) (fun i => if i < j then edg s fu L i else []) V wr) := hWy
        have HBr : Hid (Below W0.heap.size W0 wr) := hb
        have hgl := hWy.blk.lt
        clear hWy hb hcc hcell1
        go_wp2_with fail
        refine (srun_any s x fu 0 w1.heap.size _ hc hsj hf (HS0.out.below HBr.out)).mono ?_
        rintro e w2 ⟨v4, v5, rfl, h4, h5, hb2⟩
        have HW2 : Hid (Ways (w1.heap.size + 1) (w1.heap.size + 1) len (fun i => if i < j then lenI L i else 0) (fun i => if i < j then edg s fu L i else []) V w2) := HWr.out.below hb2
        have HB2 : Hid (Below W0.heap.size W0 w2) := HBr.out.trans (hb2.mono HBr.out.size)
        rw [← HED.out] at h5
        have hub : ∀ q, v5.ownBlock = some q → wr.heap.size ≤ q := fun q hq => (h5.lt q hq).1
        have h5' := owns_base (base' := w1.heap.size + 1) h5 (by omega)
        obtain ⟨a5, cap5, hv5, -, -, -⟩ := owns_shape h5
        subst hv5
        obtain ⟨a4, cap4, hv4, -, -, -⟩ := owns_shape h4
        subst hv4
        have HW3 : Hid (Ways (w1.heap.size + 1) (w1.heap.size + 1) len (fun i => if i < j + 1 then lenI L i else 0) (fun i => if i < j + 1 then edg s fu L i else []) (fun k => if k = j then .slice a5 (edg s fu L j).length cap5 else V k) ((w2.setCell ⟨w1.heap.size + 1, j * 2, none⟩ (.int .i64 (x.size : Nat))).setCell ⟨w1.heap.size + 1, j * 2 + 1, none⟩ (.slice a5 (edg s fu L j).length cap5))) := by
          have := HW2.out.lay (z := x.size) hlt h5' (by intro e; have := hub _ e; omega)
          refine this.congr ?_ ?_
          · intro i _
            by_cases h1 : i = j
            · subst h1; rw [if_pos rfl, if_pos (by omega), HLI.out]
            · rw [if_neg h1]
              by_cases h2 : i < j
              · rw [if_pos h2, if_pos (by omega)]
              · rw [if_neg h2, if_neg (by omega)]
          · intro i _
            by_cases h1 : i = j
            · subst h1; rw [if_pos rfl, if_pos (by omega)]
            · rw [if_neg h1]
              by_cases h2 : i < j
              · rw [if_pos h2, if_pos (by omega)]
              · rw [if_neg h2, if_neg (by omega)]
        have HB3 : Hid (Below W0.heap.size W0 ((w2.setCell ⟨w1.heap.size + 1, j * 2, none⟩ (.int .i64 (x.size : Nat))).setCell ⟨w1.heap.size + 1, j * 2 + 1, none⟩ (.slice a5 (edg s fu L j).length cap5))) := (HB2.out.setCell (p := ⟨w1.heap.size + 1, j * 2, none⟩) (by show W0.heap.size ≤ w1.heap.size + 1; omega) _).setCell (p := ⟨w1.heap.size + 1, j * 2 + 1, none⟩) (by show W0.heap.size ≤ w1.heap.size + 1; omega) _
        have d0 := HW2.out.c0 hlt
        have d1 := HW2.out.c1 hlt
        have df := HW2.out.blk.frz
        generalize rep s fu x = p at *
        clear h4 h5 h5' hb2 hub hcj
        have hfld := fun w => field_edges (.int .i64 (p.fa : Nat)) (.int .i64 (p.pa : Nat)) (.int .i64 (p.kd : Nat)) (.int .i64 (p.en : Nat)) (.slice a4 p.sts.length cap4) (.slice a5 (edg s fu L j).length cap5) (.int .i64 (p.k : Nat)) (.int .i64 p.top) w
        go_wp2
        go_roundw
        case rel => exact ⟨j + 1, _, by go_num, by omega, HW3.out, HB3.out⟩
        case measure => simp [intOf]; omega
      · obtain rfl : j = len := by omega
        have HWr : Hid (Ways (w1.heap.size + 1) (w1.heap.size + 1) j (lenI L) (edg s fu L) V wr) := hWy.congr (fun i hi => if_pos hi) (fun i hi => if_pos hi)
        have HBr : Hid (Below W0.heap.size W0 wr) := hb
        clear hWy hb
        go_wp2_with fail
        refine (pick_any (w1.heap.size + 1) (w1.heap.size + 1) j (edg s fu L) (lenI L) V _ hn (edg_len s fu L) (Nat.le_refl _) HWr.out).mono ?_
        rintro e w5 ⟨v5, rfl, h5, hb5⟩
        have HP : Hid (TrimPost s fu L w w5 (.returned (.tuple #[v5, .int .i64 0, .int .i64 0]))) := by
          refine ⟨?_, Or.inr ⟨HOK.out, v5, rfl, ?_⟩⟩
          · exact HB0.out.trans ((HBr.out.trans (hz0 ▸ hb5)).mono HB0.out.size)
          · rw [HLEN.out]
            exact owns_base h5 (Nat.le_trans HB.out.size (Nat.le_succ _))
        clear h5 hb5
        go_wp2
        go_ret3
        exact HP.out
end Go.Proofs.YtbmaiioecnmopaaGreatDoor
