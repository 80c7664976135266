/-
  PureM, Own, RefM, RefN, RefO, RefP: THESE TEXTS, JOINED. By the verifier of the loop 'triage'.
-/
import Derived.Test.YtbmaiioecnmopaaGreatDoorJ01
import Derived.WalkKit
import Derived.Deep.RegionLaw
import Derived.Test.YtbmaiioecnmopaaGreatDoorJ02
import Derived.BigRegion
import Derived.Laws.Bits64
/-
  THE PLAIN MACHINE: one step, a run; the edges as a set. By the verifier of the loop 'triage'.
-/
namespace Go.Proofs.YtbmaiioecnmopaaGreatDoor
namespace Im

/-- the machine's state. -/
structure St where
  fn : Nat
  at_ : Nat
  pos : Nat
  stk : List Nat
  cel : Nat → Nat
  cal : List (Nat × Nat)
  edg : Nat → Bool

def tk (op : Nat) : Nat := if op = 2 ∨ op = 3 ∨ op = 11 ∨ op = 15 then 1 else if (4 ≤ op ∧ op ≤ 9) ∨ op = 16 then 2 else 0
def psh (op : Nat) : Nat := if op = 1 ∨ (4 ≤ op ∧ op ≤ 9) ∨ op = 13 ∨ op = 14 ∨ op = 15 then 1 else if op = 3 then 2 else 0
def top (l : List Nat) : Nat := l[l.length - 1]?.getD 0
def snd (l : List Nat) : Nat := l[l.length - 2]?.getD 0
def up (E : Nat → Bool) (e : Nat) : Nat → Bool := fun i => if i = e then true else E i
def upc (C : Nat → Nat) (k v : Nat) : Nat → Nat := fun i => if i = k then v else C i
def ari (op x y : Nat) : Nat :=
  if op = 4 then (x + y) % 256 else if op = 5 then (x + 256 - y) % 256 else if op = 6 then x * y % 256 else if op = 8 then (if x = y then 1 else 0) else if op = 9 then (if x < y then 1 else 0) else x / y

/-- one instruction: the state behind it, and 0, or 10: the run has ended, or the fault's kind. -/
def stepP (s inp : ByteArray) (m : St) : St × Nat :=
  if m.stk.length < tk (bt s m.at_) then (m, 1)
  else if 16 < m.stk.length - tk (bt s m.at_) + psh (bt s m.at_) then (m, 2)
  else if bt s m.at_ = 0 then
    (if m.cal.length = 0 then (m, 10) else ({ m with fn := (m.cal[m.cal.length - 1]?.getD (0, 0)).1, at_ := (m.cal[m.cal.length - 1]?.getD (0, 0)).2 + 2, cal := m.cal.take (m.cal.length - 1) }, 0))
  else if bt s m.at_ = 10 then ({ m with at_ := st s m.fn + bt s (m.at_ + 1), edg := up m.edg (2 * m.at_ + 1) }, 0)
  else if bt s m.at_ = 11 then
    (if top m.stk = 0 then ({ m with stk := m.stk.take (m.stk.length - 1), at_ := st s m.fn + bt s (m.at_ + 1), edg := up m.edg (2 * m.at_ + 1) }, 0)
     else ({ m with stk := m.stk.take (m.stk.length - 1), at_ := m.at_ + 2, edg := up m.edg (2 * m.at_) }, 0))
  else if bt s m.at_ = 12 then
    (if 8 ≤ m.cal.length then (m, 6) else ({ m with cal := m.cal ++ [(m.fn, m.at_)], fn := bt s (m.at_ + 1), at_ := st s (bt s (m.at_ + 1)), edg := up m.edg (2 * m.at_ + 1) }, 0))
  else if bt s m.at_ = 17 then (m, 5)
  else if bt s m.at_ = 1 then ({ m with stk := m.stk ++ [bt s (m.at_ + 1)], at_ := m.at_ + 2 }, 0)
  else if bt s m.at_ = 2 then ({ m with stk := m.stk.take (m.stk.length - 1), at_ := m.at_ + 1 }, 0)
  else if bt s m.at_ = 3 then ({ m with stk := m.stk ++ [top m.stk], at_ := m.at_ + 1 }, 0)
  else if bt s m.at_ = 13 then
    (if m.pos < inp.size then ({ m with stk := m.stk ++ [bt inp m.pos], pos := m.pos + 1, at_ := m.at_ + 1 }, 0) else ({ m with stk := m.stk ++ [0], at_ := m.at_ + 1 }, 0))
  else if bt s m.at_ = 14 then ({ m with stk := m.stk ++ [if m.pos < inp.size then 1 else 0], at_ := m.at_ + 1 }, 0)
  else if bt s m.at_ = 15 then
    (if 16 ≤ top m.stk then (m, 4) else ({ m with stk := m.stk.take (m.stk.length - 1) ++ [m.cel (top m.stk)], at_ := m.at_ + 1 }, 0))
  else if bt s m.at_ = 16 then
    (if 16 ≤ top m.stk then (m, 4) else ({ m with stk := m.stk.take (m.stk.length - 2), cel := upc m.cel (top m.stk) (snd m.stk), at_ := m.at_ + 1 }, 0))
  else if bt s m.at_ = 7 ∧ top m.stk = 0 then (m, 3)
  else ({ m with stk := m.stk.take (m.stk.length - 2) ++ [ari (bt s m.at_) (snd m.stk) (top m.stk)], at_ := m.at_ + 1 }, 0)

/-- a run with so much fuel: how it ended (0, 1, 2), the kind, the state, the steps. -/
def runP (s inp : ByteArray) : Nat → St → Nat → Nat × Nat × St × Nat
  | 0, m, k => (2, 0, m, k)
  | f + 1, m, k =>
    if (stepP s inp m).2 = 0 then runP s inp f (stepP s inp m).1 (k + 1)
    else if (stepP s inp m).2 = 10 then (0, 0, (stepP s inp m).1, k + 1)
    else (1, (stepP s inp m).2, (stepP s inp m).1, k + 1)

def st0 (s : ByteArray) : St := { fn := 0, at_ := st s 0, pos := 0, stk := [], cel := fun _ => 0, cal := [], edg := fun _ => false }

/-- the edges, rising. -/
def el (E : Nat → Bool) : List Nat := (List.range 400).filter E
theorem el_len (E : Nat → Bool) : (el E).length ≤ 400 := by
  have := List.length_filter_le E (List.range 400)
  simpa [el] using this
theorem range_split (e : Nat) (h : e < 400) : List.range 400 = List.range e ++ e :: (List.range' (e + 1) (400 - (e + 1))) := by
  rw [List.range_eq_range', List.range_eq_range']
  have h1 : List.range' 0 400 = List.range' 0 e ++ List.range' (0 + 1 * e) (400 - e) := by
    rw [List.range'_append]; congr 1; omega
  rw [h1]
  congr 1
  obtain ⟨k, hk⟩ : ∃ k, 400 - e = k + 1 := ⟨400 - e - 1, by omega⟩
  rw [hk, List.range'_succ, show 400 - (e + 1) = k by omega]
  simp
/-- the edges below one, and those above. -/
def elLo (E : Nat → Bool) (e : Nat) : List Nat := (List.range e).filter E
def elHi (E : Nat → Bool) (e : Nat) : List Nat := (List.range' (e + 1) (400 - (e + 1))).filter E
theorem el_old (E : Nat → Bool) (e : Nat) (hE : E e = true) : el (up E e) = el E := by
  have : up E e = E := by
    funext i; unfold up; split
    · next hi => rw [hi, hE]
    · rfl
  rw [this]
theorem el_split (E : Nat → Bool) (e : Nat) (h : e < 400) (hE : E e = false) : el E = elLo E e ++ elHi E e := by
  unfold el elLo elHi
  rw [range_split e h, List.filter_append, List.filter_cons]
  simp [hE]
theorem el_new (E : Nat → Bool) (e : Nat) (h : e < 400) : el (up E e) = elLo E e ++ e :: elHi E e := by
  unfold el elLo elHi
  rw [range_split e h, List.filter_append, List.filter_cons]
  have h1 : (List.range e).filter (up E e) = (List.range e).filter E := by
    apply List.filter_congr
    intro x hx
    have := List.mem_range.1 hx
    unfold up; rw [if_neg (by omega)]
  have h2 : (List.range' (e + 1) (400 - (e + 1))).filter (up E e) = (List.range' (e + 1) (400 - (e + 1))).filter E := by
    apply List.filter_congr
    intro x hx
    have := List.mem_range'.1 hx
    unfold up; rw [if_neg (by omega)]
  rw [h1, h2, show up E e e = true by simp [up]]
  simp
theorem elLo_lt (E : Nat → Bool) (e x : Nat) (h : x ∈ elLo E e) : x < e := List.mem_range.1 (List.mem_filter.1 h).1
theorem elHi_gt (E : Nat → Bool) (e x : Nat) (h : x ∈ elHi E e) : e < x := by
  have := List.mem_range'.1 (List.mem_filter.1 h).1; omega
theorem el_mem (E : Nat → Bool) (e : Nat) (h : e < 400) : e ∈ el E ↔ E e = true := by
  simp [el, h]
end Im
end Go.Proofs.YtbmaiioecnmopaaGreatDoor

/-
  'append' ON A SLICE OF THE CALL's OWN, AND WHERE THE NEW ARRAY LIES: the guide's law, and besides: the new row is the old one, or a new block. By the verifier of the loop 'triage'.
-/
namespace Go.Proofs.YtbmaiioecnmopaaGreatDoor
open Go.RowKit

/-- the row behind an append: the old one, or a new block. -/
def Fresh (w : World) (v v' : Value) : Prop := ∀ k, v'.ownBlock = some k → v.ownBlock = some k ∨ w.heap.size ≤ k

theorem run_append_fresh {P : Program} (w : World) (base : Nat) (t ty e : TypeId) (i : TypeInfo) (z : Value) (size bytes : Nat) (ht : P.underlying t = some (.slice e)) (hi : P.info? e = some i) (hz : i.zero = some z)
    (hsize : i.size = size) (hby : i.bytes = bytes) (hzs : z.cells.size = size) (hsz : 0 < size)
    (v : Value) (n : Nat) (xs : List Value) (hown : w.ownsRow base e size v n xs)
    (a : Addr) (m c : Nat) (news : List Value) (hl : news.length = m * size) (hnews : ∀ j u, news[j]? = some u → w.cell? (a.add j) = some u) (h1 : ∀ u ∈ news, u.oneCell' = true)
    (h63 : n + m ≤ maxLen) (hbytes : (n + m) * bytes ≤ 140737488355328) (hbase : base ≤ w.heap.size) :
    ∃ v' w', (Builtin.append_ #[t, t] ty #[v, .slice (some a) m c]).run P w = .ok v' w' ∧ w'.ownsRow base e size v' (n + m) (xs ++ news) ∧ w.grownBy w' v.ownBlock ∧ Fresh w v v' := by
  obtain ⟨v', w', hr, h2, h3, h4⟩ := run_append_own (P := P) w base t ty e i z size bytes ht hi hz hsize hby hzs hsz v n xs hown a m c news hl hnews h1 h63 hbytes hbase
  refine ⟨v', w', hr, h2, h3, ?_⟩
  intro k hk
  subst hsize hby
  rcases hown.2 with ⟨rfl, rfl⟩ | ⟨g, cap, cur, rfl, hbg, hg, hnc, hcm, hcs, htake⟩
  · right
    have hx : xs = [] := List.eq_nil_of_length_eq_zero (by simpa using hown.1)
    subst hx
    obtain ⟨u, wu, hru, h2u, _, _⟩ := run_append_own (P := P) w w.heap.size t ty e i z i.size i.bytes ht hi hz rfl rfl hzs hsz (.slice none 0 0) 0 [] (World.ownsRow_nil _ _ _ _) a m c news hl hnews h1 h63 hbytes (Nat.le_refl _)
    rw [hr] at hru
    simp at hru
    rw [← hru.1] at h2u
    exact (h2u.lt k hk).1
  · by_cases hroom : n + m ≤ cap
    · left
      have hfit : n * i.size + news.length ≤ cur.size := by rw [hl, hcs, ← Nat.add_mul]; exact Nat.mul_le_mul_right _ hroom
      have hr2 := run_append_room (P := P) w t ty e i ht hi g n cap cur hg a m c news hl hnews h1 hroom hfit
      rw [hr] at hr2
      simp at hr2
      rw [hr2.1] at hk
      exact hk
    · right
      have hsmall : n + m ≤ 9223372036854775807 := by simp only [maxLen] at h63; omega
      have holds : ∀ j u, xs[j]? = some u → w.cell? ((⟨g, 0, none⟩ : Addr).add j) = some u := hown.cells (g := g) rfl
      have hr2 := run_append_grow (P := P) w t ty e i z ht hi hz ⟨g, 0, none⟩ n cap xs hown.1 holds a m c news hl hnews (by omega) (by omega) (growslice_fits (by omega) hbytes)
      rw [hr] at hr2
      simp at hr2
      rw [hr2.1] at hk
      simp [Value.ownBlock] at hk
      omega

theorem wp_append_fresh {P : Program} {w : World} {o : Oper} {a : Act} {K : Act → World → Prop} {Q : Exit → Act → World → Prop} (s x : Operand) (t : TypeId)
    (ho : o.op = .call { callee := .builtin .append, args := #[s, x], argTypes := #[t, t] })
    (base : Nat) (e : TypeId) (i : TypeInfo) (z : Value) (size bytes : Nat) (ht : P.underlying t = some (.slice e)) (hi : P.info? e = some i) (hz : i.zero = some z)
    (hsize : i.size = size) (hby : i.bytes = bytes) (hzs : z.cells.size = size) (hsz : 0 < size)
    (v : Value) (n : Nat) (xs : List Value) (hs : a.eval s = v) (hown : w.ownsRow base e size v n xs)
    (ad : Addr) (m c : Nat) (news : List Value) (hx : a.eval x = .slice (some ad) m c) (hl : news.length = m * size) (hnews : ∀ j u, news[j]? = some u → w.cell? (ad.add j) = some u) (h1 : ∀ u ∈ news, u.oneCell' = true)
    (h63 : n + m ≤ maxLen) (hbytes : (n + m) * bytes ≤ 140737488355328) (hbase : base ≤ w.heap.size)
    (h : ∀ v' w', w'.ownsRow base e size v' (n + m) (xs ++ news) → w.grownBy w' v.ownBlock → Fresh w v v' → K (a.put o.dst v') w') : o.wp P a w K Q := by
  obtain ⟨v', w', hr, h2, h3, h4⟩ := run_append_fresh (P := P) w base t o.type e i z size bytes ht hi hz hsize hby hzs hsz v n xs hown ad m c news hl hnews h1 h63 hbytes hbase
  unfold Oper.wp execOp
  simp only [ho, resolve, invoke, builtin, Sem.run_bind, Sem.run_pure, Result.andThen_ok, List.map_toArray, List.map_cons, List.map_nil, hs, hx, hr]
  exact h v' w' h2 h3 h4

theorem wpList_append_fresh {P : Program} {w : World} {ops : Array Oper} {rest : List Oper} {o : Oper} {a : Act} {Q : Exit → Act → World → Prop} (hgd : o.guard = none) (s x : Operand) (t : TypeId)
    (ho : o.op = .call { callee := .builtin .append, args := #[s, x], argTypes := #[t, t] })
    (base : Nat) (e : TypeId) (i : TypeInfo) (z : Value) (size bytes : Nat) (ht : P.underlying t = some (.slice e)) (hi : P.info? e = some i) (hz : i.zero = some z)
    (hsize : i.size = size) (hby : i.bytes = bytes) (hzs : z.cells.size = size) (hsz : 0 < size)
    (v : Value) (n : Nat) (xs : List Value) (hs : a.eval s = v) (hown : w.ownsRow base e size v n xs)
    (ad : Addr) (m c : Nat) (news : List Value) (hx : a.eval x = .slice (some ad) m c) (hl : news.length = m * size) (hnews : ∀ j u, news[j]? = some u → w.cell? (ad.add j) = some u) (h1 : ∀ u ∈ news, u.oneCell' = true)
    (h63 : n + m ≤ maxLen) (hbytes : (n + m) * bytes ≤ 140737488355328) (hbase : base ≤ w.heap.size)
    (h : ∀ v' w', w'.ownsRow base e size v' (n + m) (xs ++ news) → w.grownBy w' v.ownBlock → Fresh w v v' → wpList P ops Q rest (a.put o.dst v') w') : wpList P ops Q (o :: rest) a w :=
  wpList_plain hgd fun _ hK => wp_append_fresh s x t ho base e i z size bytes ht hi hz hsize hby hzs hsz v n xs hs hown ad m c news hx hl hnews h1 h63 hbytes hbase fun v' w' h2 h3 h4 => hK _ _ (h v' w' h2 h3 h4)

/-- the same as one step of a region that draws. -/
theorem step_append_fresh {P : Program} {ops : Array Oper} {o : Oper} {a : Act} {w : World} {K : Act → World → Prop} {Q : Exit → Act → World → Prop} {E : Prop} (hgd : o.guard = none) (s x : Operand) (t : TypeId)
    (ho : o.op = .call { callee := .builtin .append, args := #[s, x], argTypes := #[t, t] })
    (base : Nat) (e : TypeId) (i : TypeInfo) (z : Value) (size bytes : Nat) (ht : P.underlying t = some (.slice e)) (hi : P.info? e = some i) (hz : i.zero = some z)
    (hsize : i.size = size) (hby : i.bytes = bytes) (hzs : z.cells.size = size) (hsz : 0 < size)
    (v : Value) (n : Nat) (xs : List Value) (hs : a.eval s = v) (hown : w.ownsRow base e size v n xs)
    (ad : Addr) (m c : Nat) (news : List Value) (hx : a.eval x = .slice (some ad) m c) (hl : news.length = m * size) (hnews : ∀ j u, news[j]? = some u → w.cell? (ad.add j) = some u) (h1 : ∀ u ∈ news, u.oneCell' = true)
    (h63 : n + m ≤ maxLen) (hbytes : (n + m) * bytes ≤ 140737488355328) (hbase : base ≤ w.heap.size)
    (h : ∀ v' w', w'.ownsRow base e size v' (n + m) (xs ++ news) → w.grownBy w' v.ownBlock → Fresh w v v' → K (a.put o.dst v') w') :
    if Region.wanted o (yielded ops a.tmps) = true then Oper.wp P o a w K Q else E := by
  have hw : Region.wanted o (yielded ops a.tmps) = true := by simp [Region.wanted, hgd]
  rw [if_pos hw]
  exact wp_append_fresh s x t ho base e i z size bytes ht hi hz hsize hby hzs hsz v n xs hs hown ad m c news hx hl hnews h1 h63 hbytes hbase h
end Go.Proofs.YtbmaiioecnmopaaGreatDoor

/-
  THE DOCUMENT's SIDE (package triageref): the machine's memory; takes, pushes, truth, pop, push. By the verifier of the loop 'triage'.
-/
namespace Go.Proofs.YtbmaiioecnmopaaGreatDoor
open Go.RowKit

def updV (L : Nat → Value) (k : Nat) (v : Value) : Nat → Value := fun i => if i = k then v else L i
theorem updV_at (L : Nat → Value) (k : Nat) (v : Value) : updV L k v k = v := by simp [updV]
theorem updV_ne (L : Nat → Value) (k i : Nat) (v : Value) (h : i ≠ k) : updV L k v i = L i := by simp [updV, h]

/-- a block of c cells, as a function tells them. -/
structure Bx (b c : Nat) (L : Nat → Value) (w : World) : Prop where
  cell : ∀ o, o < c → w.cell? ⟨b, o, none⟩ = some (L o)
  frz : ∀ o, w.frozen? ⟨b, o, none⟩ = false
  lt : b < w.heap.size
theorem Bx.set {b c : Nat} {L : Nat → Value} {w : World} (h : Bx b c L w) (o : Nat) (v : Value) : o < c → Bx b c (updV L o v) (w.setCell ⟨b, o, none⟩ v) := by
  intro ho
  refine ⟨?_, fun o' => (World.frozen?_setCell _ _ _ _).trans (h.frz o'), by simpa using h.lt⟩
  intro o' ho'
  by_cases he : o' = o
  · subst he; rw [updV_at]; exact World.cell?_setCell_same _ _ _ (h.cell o' ho')
  · rw [updV_ne _ _ _ _ he, World.cell?_setCell_other _ _ _ _ (by simp)]; exact h.cell o' ho'
theorem Bx.grown {b c : Nat} {L : Nat → Value} {w w' : World} (h : Bx b c L w) {row : Option Nat} (hg : w.grownBy w' row) (hr : some b ≠ row) : Bx b c L w' :=
  ⟨fun o ho => hg.cell (h.cell o ho) hr, fun o => (World.frozen?_of_block (a := ⟨b, o, none⟩) (hg.block b h.lt hr)).trans (h.frz o), Nat.lt_of_lt_of_le h.lt hg.size⟩
theorem Bx.alloc {b c : Nat} {L : Nat → Value} {w : World} (h : Bx b c L w) (o : Obj) : Bx b c L (w.alloc o) := h.grown (World.grownBy_alloc w o none) (by simp)
theorem Bx.drewN {b c : Nat} {L : Nat → Value} {w : World} (h : Bx b c L w) (n : Nat) : Bx b c L (w.drewN n) := ⟨h.cell, h.frz, h.lt⟩

/-- below B nothing turns but block b. -/
structure Kx (B b : Nat) (w w' : World) : Prop where
  os : w'.os = w.os
  tape : w'.tape = w.tape
  output : w'.output = w.output
  size : w.heap.size ≤ w'.heap.size
  block : ∀ k, k < B → k ≠ b → w'.heap[k]? = w.heap[k]?
theorem Kx.refl (B b : Nat) (w : World) : Kx B b w w := ⟨rfl, rfl, rfl, Nat.le_refl _, fun _ _ _ => rfl⟩
theorem Kx.trans {B b : Nat} {w w1 w2 : World} (h : Kx B b w w1) (k : Kx B b w1 w2) : Kx B b w w2 :=
  ⟨k.os.trans h.os, k.tape.trans h.tape, k.output.trans h.output, Nat.le_trans h.size k.size, fun j hj hne => (k.block j hj hne).trans (h.block j hj hne)⟩
theorem Kx.set {B b : Nat} {w w1 : World} (h : Kx B b w w1) (o : Nat) (v : Value) : Kx B b w (w1.setCell ⟨b, o, none⟩ v) :=
  h.trans ⟨rfl, rfl, rfl, by simp, fun j _ hne => Below.heap_setCell _ _ _ _ hne⟩
theorem Kx.drewN {B b : Nat} {w w1 : World} (h : Kx B b w w1) (n : Nat) : Kx B b w (w1.drewN n) := h.trans ⟨rfl, rfl, rfl, Nat.le_refl _, fun _ _ _ => rfl⟩
theorem Kx.alloc {B b : Nat} {w w1 : World} (h : Kx B b w w1) (hB : B ≤ w1.heap.size) (o : Obj) : Kx B b w (w1.alloc o) :=
  h.trans ⟨rfl, rfl, rfl, by simp, fun j hj _ => Below.heap_alloc _ _ _ (by omega)⟩
theorem Kx.grown {B b : Nat} {w w1 w2 : World} (h : Kx B b w w1) {row : Option Nat} (hg : w1.grownBy w2 row) (hB : B ≤ w1.heap.size) (hr : ∀ k, row = some k → B ≤ k) : Kx B b w w2 :=
  h.trans ⟨hg.os, hg.tape, hg.output, hg.size, fun j hj _ => hg.block j (by omega) (fun e => by have := hr j e.symm; omega)⟩

/-- a list of pairs in memory. -/
def prs : List (Nat × Nat) → List Value
  | [] => []
  | p :: r => .int .i64 (p.1 : Nat) :: .int .i64 (p.2 : Nat) :: prs r
theorem prs_append (a b : List (Nat × Nat)) : prs (a ++ b) = prs a ++ prs b := by
  induction a with
  | nil => rfl
  | cons p r ih => simp [prs, ih]
theorem prs_len (a : List (Nat × Nat)) : (prs a).length = a.length * 2 := by
  induction a with
  | nil => rfl
  | cons p r ih => simp [prs, ih]; omega

/-- THE MEMORY of the document's machine: its struct at bb as L tells it; the rows it owns, from 'base' on. -/
structure Ms (s inp : ByteArray) (n bb bF cF base : Nat) (m : Im.St) (k : Nat) (L : Nat → Value) (w : World) : Prop where
  bx : Bx bb 33 L w
  l0 : L 0 = .string s
  l1 : L 1 = .slice (some ⟨bF, 0, none⟩) n cF
  l2 : L 2 = .string inp
  l3 : L 3 = .int .i64 (m.pos : Nat)
  l4 : L 4 = .int .i64 (m.fn : Nat)
  l5 : L 5 = .int .i64 (m.at_ : Nat)
  rs : w.ownsRow base 3 1 (L 6) m.stk.length (ints m.stk)
  lc : ∀ i, i < 16 → L (7 + i) = .int .i64 (m.cel i : Nat)
  rc : w.ownsRow base 86 2 (L 23) m.cal.length (prs m.cal)
  l24 : L 24 = .int .i64 0
  l25 : L 25 = .int .i64 0
  l26 : L 26 = .int .i64 0
  l27 : L 27 = .int .i64 0
  l28 : L 28 = .slice none 0 0
  re : w.ownsRow base 3 1 (L 29) (Im.el m.edg).length (ints (Im.el m.edg))
  l30 : L 30 = .int .i64 (k : Nat)
  l31 : L 31 = .int .i64 (-1)
  l32 : L 32 = .bool false
  dse : (L 6).ownBlock = none ∨ (L 6).ownBlock ≠ (L 29).ownBlock
  fc : ∀ f, f < n → w.cell? ⟨bF, f * 2, none⟩ = some (.int .i64 (Im.st s f : Nat))
  hbb : bb < base
  hbF : bF < base
  hne : bF ≠ bb
  hba : base ≤ w.heap.size

set_option maxHeartbeats 400000 in
theorem takes_any (c : Nat) (w : World) (hc : c < 256) : Calls Tryz.prog 87 #[.int .u8 c] w fun e w' => e = .returned (.int .i64 (Im.tk c : Nat)) ∧ w = w' := by
  go_enter Tryz.func87, Tryz.ntmps87
  go_wp2
  all_goals
    go_ret
    refine ⟨ret_int ?_, rfl⟩
    simp only [beq_iff_eq, beq_eq_false_iff_ne] at *
    unfold Im.tk
    first
      | (rw [if_pos (by omega)]; rfl)
      | (rw [if_neg (by omega), if_pos (by omega)]; rfl)
      | (rw [if_neg (by omega), if_neg (by omega)]; rfl)
set_option maxHeartbeats 400000 in
theorem pushes_any (c : Nat) (w : World) (hc : c < 256) : Calls Tryz.prog 89 #[.int .u8 c] w fun e w' => e = .returned (.int .i64 (Im.psh c : Nat)) ∧ w = w' := by
  go_enter Tryz.func89, Tryz.ntmps89
  go_wp2
  all_goals
    go_ret
    refine ⟨ret_int ?_, rfl⟩
    simp only [beq_iff_eq, beq_eq_false_iff_ne] at *
    unfold Im.psh
    first
      | (rw [if_pos (by omega)]; rfl)
      | (rw [if_neg (by omega), if_pos (by omega)]; rfl)
      | (rw [if_neg (by omega), if_neg (by omega)]; rfl)
theorem truth_any (b : Bool) (w : World) : Calls Tryz.prog 106 #[.bool b] w fun e w' => e = .returned (.int .i64 (if b then 1 else 0 : Nat)) ∧ w = w' := by
  cases b
  all_goals
    go_enter Tryz.func106, Tryz.ntmps106
    go_wp2
    go_ret
    exact ⟨ret_int (by simp), rfl⟩
end Go.Proofs.YtbmaiioecnmopaaGreatDoor

/-
  THE DOCUMENT's SIDE (package triageref): pop, push. By the verifier of the loop 'triage'.
-/
namespace Go.Proofs.YtbmaiioecnmopaaGreatDoor
open Go.RowKit

theorem owns_take {w : World} {base : Nat} {e : TypeId} {size g n cap k : Nat} {xs : List Value} (h : w.ownsRow base e size (.slice (some ⟨g, 0, none⟩) n cap) n xs) (hk : k ≤ n) :
    w.ownsRow base e size (.slice (some ⟨g, 0, none⟩) k cap) k (xs.take (k * size)) := by
  obtain ⟨hl, ⟨h0, _⟩ | ⟨g', cap', cur, h1, hb, hg, hn, hc, hs, ht⟩⟩ := h
  · simp at h0
  · obtain ⟨rfl, rfl⟩ : g = g' ∧ cap = cap' := by simpa using h1
    have hks : k * size ≤ n * size := Nat.mul_le_mul_right _ hk
    refine ⟨by rw [List.length_take, hl]; omega, Or.inr ⟨g, cap, cur, rfl, hb, hg, by omega, hc, hs, ?_⟩⟩
    rw [← ht, List.take_take, Nat.min_eq_left hks]

/-- an owned row of at least one element: its value and its cells. -/
theorem owns_some {w : World} {base : Nat} {e : TypeId} {size : Nat} {v : Value} {n : Nat} {xs : List Value} (h : w.ownsRow base e size v n xs) (hn : 0 < n) :
    ∃ g cap, v = .slice (some ⟨g, 0, none⟩) n cap ∧ base ≤ g ∧ n ≤ cap ∧ cap ≤ maxLen ∧ g < w.heap.size ∧ ∀ j u, xs[j]? = some u → w.cell? ⟨g, j, none⟩ = some u := by
  have hc := fun g (hg : v.ownBlock = some g) => h.cells hg
  obtain ⟨_, ⟨_, h0⟩ | ⟨g, cap, cur, rfl, hb, hg, hnc, hcm, _, _⟩⟩ := h
  · omega
  · exact ⟨g, cap, rfl, hb, hnc, hcm, (Array.getElem?_eq_some_iff.1 hg).1, fun j u hu => by have := hc g rfl j u hu; rw [addr_add] at this; exact this⟩
theorem owns_kind {w : World} {base base' : Nat} {e e' : TypeId} {size size' : Nat} {v v' : Value} {n n' : Nat} {xs xs' : List Value} (h : w.ownsRow base e size v n xs) (h' : w.ownsRow base' e' size' v' n' xs') (he : e ≠ e') : v.ownBlock = none ∨ v.ownBlock ≠ v'.ownBlock := by
  obtain ⟨_, ⟨rfl, _⟩ | ⟨g, cap, cur, rfl, _, hg, _⟩⟩ := h
  · left; rfl
  · obtain ⟨_, ⟨rfl, _⟩ | ⟨g', cap', cur', rfl, _, hg', _⟩⟩ := h'
    · right; simp [Value.ownBlock]
    · right
      simp only [Value.ownBlock, ne_eq, Option.some.injEq]
      intro hh
      rw [hh, hg'] at hg
      simp at hg
      exact he hg.2.symm

theorem ints_take (l : List Nat) (k : Nat) : ints (l.take k) = (ints l).take (k * 1) := by simp [ints, List.map_take]
theorem ints_get (l : List Nat) (j : Nat) (h : j < l.length) : (ints l)[j]? = some (.int .i64 (l[j]?.getD 0 : Nat)) := by simp [ints, List.getElem?_eq_getElem h]

theorem Ms.drewN {s inp : ByteArray} {n bb bF cF base k : Nat} {m : Im.St} {L : Nat → Value} {w : World} (hM : Ms s inp n bb bF cF base m k L w) (q : Nat) : Ms s inp n bb bF cF base m k L (w.drewN q) := { hM with bx := hM.bx.drewN q, rs := hM.rs, rc := hM.rc, re := hM.re, fc := hM.fc, hba := hM.hba }
theorem Ms.alloc {s inp : ByteArray} {n bb bF cF base k : Nat} {m : Im.St} {L : Nat → Value} {w : World} (hM : Ms s inp n bb bF cF base m k L w) (o : Obj) : Ms s inp n bb bF cF base m k L (w.alloc o) := { hM with bx := hM.bx.alloc o, rs := hM.rs.alloc o, rc := hM.rc.alloc o, re := hM.re.alloc o, fc := fun f hf => (World.grownBy_alloc w o none).cell (hM.fc f hf) (by simp), hba := by have := hM.hba; simp; omega }
theorem Ms.setAt {s inp : ByteArray} {n bb bF cF base k : Nat} {m : Im.St} {L : Nat → Value} {w : World} (hM : Ms s inp n bb bF cF base m k L w) (a : Nat) : Ms s inp n bb bF cF base { m with at_ := a } k (updV L 5 (.int .i64 (a : Nat))) (w.setCell ⟨bb, 5, none⟩ (.int .i64 (a : Nat))) := by
  have low : ∀ {e : TypeId} {size : Nat} {x : Value} {q : Nat} {xs : List Value}, w.ownsRow base e size x q xs → (w.setCell ⟨bb, 5, none⟩ (.int .i64 (a : Nat))).ownsRow base e size x q xs := fun h => ownsRow_setCell_below h (by exact hM.hbb) _
  constructor
  case bx => exact hM.bx.set _ _ (by omega)
  case rs => rw [updV_ne _ _ _ _ (by omega)]; exact low hM.rs
  case rc => rw [updV_ne _ _ _ _ (by omega)]; exact low hM.rc
  case re => rw [updV_ne _ _ _ _ (by omega)]; exact low hM.re
  case dse => rw [updV_ne _ _ _ _ (by omega), updV_ne _ _ _ _ (by omega)]; exact hM.dse
  case fc => exact fun f hf => (World.cell?_of_block (a := ⟨bF, f * 2, none⟩) (Below.heap_setCell _ _ _ _ hM.hne)).trans (hM.fc f hf)
  case lc => exact fun i hi => by rw [updV_ne _ _ _ _ (by omega)]; exact hM.lc i hi
  case hbb => exact hM.hbb
  case hbF => exact hM.hbF
  case hne => exact hM.hne
  case hba => simpa using hM.hba
  case l0 => rw [updV_ne _ _ _ _ (by omega)]; exact hM.l0
  case l1 => rw [updV_ne _ _ _ _ (by omega)]; exact hM.l1
  case l2 => rw [updV_ne _ _ _ _ (by omega)]; exact hM.l2
  case l3 => rw [updV_ne _ _ _ _ (by omega)]; exact hM.l3
  case l4 => rw [updV_ne _ _ _ _ (by omega)]; exact hM.l4
  case l5 => rw [updV_at]
  case l24 => rw [updV_ne _ _ _ _ (by omega)]; exact hM.l24
  case l25 => rw [updV_ne _ _ _ _ (by omega)]; exact hM.l25
  case l26 => rw [updV_ne _ _ _ _ (by omega)]; exact hM.l26
  case l27 => rw [updV_ne _ _ _ _ (by omega)]; exact hM.l27
  case l28 => rw [updV_ne _ _ _ _ (by omega)]; exact hM.l28
  case l30 => rw [updV_ne _ _ _ _ (by omega)]; exact hM.l30
  case l31 => rw [updV_ne _ _ _ _ (by omega)]; exact hM.l31
  case l32 => rw [updV_ne _ _ _ _ (by omega)]; exact hM.l32
theorem Ms.setFn {s inp : ByteArray} {n bb bF cF base k : Nat} {m : Im.St} {L : Nat → Value} {w : World} (hM : Ms s inp n bb bF cF base m k L w) (a : Nat) : Ms s inp n bb bF cF base { m with fn := a } k (updV L 4 (.int .i64 (a : Nat))) (w.setCell ⟨bb, 4, none⟩ (.int .i64 (a : Nat))) := by
  have low : ∀ {e : TypeId} {size : Nat} {x : Value} {q : Nat} {xs : List Value}, w.ownsRow base e size x q xs → (w.setCell ⟨bb, 4, none⟩ (.int .i64 (a : Nat))).ownsRow base e size x q xs := fun h => ownsRow_setCell_below h (by exact hM.hbb) _
  constructor
  case bx => exact hM.bx.set _ _ (by omega)
  case rs => rw [updV_ne _ _ _ _ (by omega)]; exact low hM.rs
  case rc => rw [updV_ne _ _ _ _ (by omega)]; exact low hM.rc
  case re => rw [updV_ne _ _ _ _ (by omega)]; exact low hM.re
  case dse => rw [updV_ne _ _ _ _ (by omega), updV_ne _ _ _ _ (by omega)]; exact hM.dse
  case fc => exact fun f hf => (World.cell?_of_block (a := ⟨bF, f * 2, none⟩) (Below.heap_setCell _ _ _ _ hM.hne)).trans (hM.fc f hf)
  case lc => exact fun i hi => by rw [updV_ne _ _ _ _ (by omega)]; exact hM.lc i hi
  case hbb => exact hM.hbb
  case hbF => exact hM.hbF
  case hne => exact hM.hne
  case hba => simpa using hM.hba
  case l0 => rw [updV_ne _ _ _ _ (by omega)]; exact hM.l0
  case l1 => rw [updV_ne _ _ _ _ (by omega)]; exact hM.l1
  case l2 => rw [updV_ne _ _ _ _ (by omega)]; exact hM.l2
  case l3 => rw [updV_ne _ _ _ _ (by omega)]; exact hM.l3
  case l4 => rw [updV_at]
  case l5 => rw [updV_ne _ _ _ _ (by omega)]; exact hM.l5
  case l24 => rw [updV_ne _ _ _ _ (by omega)]; exact hM.l24
  case l25 => rw [updV_ne _ _ _ _ (by omega)]; exact hM.l25
  case l26 => rw [updV_ne _ _ _ _ (by omega)]; exact hM.l26
  case l27 => rw [updV_ne _ _ _ _ (by omega)]; exact hM.l27
  case l28 => rw [updV_ne _ _ _ _ (by omega)]; exact hM.l28
  case l30 => rw [updV_ne _ _ _ _ (by omega)]; exact hM.l30
  case l31 => rw [updV_ne _ _ _ _ (by omega)]; exact hM.l31
  case l32 => rw [updV_ne _ _ _ _ (by omega)]; exact hM.l32
theorem Ms.setPos {s inp : ByteArray} {n bb bF cF base k : Nat} {m : Im.St} {L : Nat → Value} {w : World} (hM : Ms s inp n bb bF cF base m k L w) (a : Nat) : Ms s inp n bb bF cF base { m with pos := a } k (updV L 3 (.int .i64 (a : Nat))) (w.setCell ⟨bb, 3, none⟩ (.int .i64 (a : Nat))) := by
  have low : ∀ {e : TypeId} {size : Nat} {x : Value} {q : Nat} {xs : List Value}, w.ownsRow base e size x q xs → (w.setCell ⟨bb, 3, none⟩ (.int .i64 (a : Nat))).ownsRow base e size x q xs := fun h => ownsRow_setCell_below h (by exact hM.hbb) _
  constructor
  case bx => exact hM.bx.set _ _ (by omega)
  case rs => rw [updV_ne _ _ _ _ (by omega)]; exact low hM.rs
  case rc => rw [updV_ne _ _ _ _ (by omega)]; exact low hM.rc
  case re => rw [updV_ne _ _ _ _ (by omega)]; exact low hM.re
  case dse => rw [updV_ne _ _ _ _ (by omega), updV_ne _ _ _ _ (by omega)]; exact hM.dse
  case fc => exact fun f hf => (World.cell?_of_block (a := ⟨bF, f * 2, none⟩) (Below.heap_setCell _ _ _ _ hM.hne)).trans (hM.fc f hf)
  case lc => exact fun i hi => by rw [updV_ne _ _ _ _ (by omega)]; exact hM.lc i hi
  case hbb => exact hM.hbb
  case hbF => exact hM.hbF
  case hne => exact hM.hne
  case hba => simpa using hM.hba
  case l0 => rw [updV_ne _ _ _ _ (by omega)]; exact hM.l0
  case l1 => rw [updV_ne _ _ _ _ (by omega)]; exact hM.l1
  case l2 => rw [updV_ne _ _ _ _ (by omega)]; exact hM.l2
  case l3 => rw [updV_at]
  case l4 => rw [updV_ne _ _ _ _ (by omega)]; exact hM.l4
  case l5 => rw [updV_ne _ _ _ _ (by omega)]; exact hM.l5
  case l24 => rw [updV_ne _ _ _ _ (by omega)]; exact hM.l24
  case l25 => rw [updV_ne _ _ _ _ (by omega)]; exact hM.l25
  case l26 => rw [updV_ne _ _ _ _ (by omega)]; exact hM.l26
  case l27 => rw [updV_ne _ _ _ _ (by omega)]; exact hM.l27
  case l28 => rw [updV_ne _ _ _ _ (by omega)]; exact hM.l28
  case l30 => rw [updV_ne _ _ _ _ (by omega)]; exact hM.l30
  case l31 => rw [updV_ne _ _ _ _ (by omega)]; exact hM.l31
  case l32 => rw [updV_ne _ _ _ _ (by omega)]; exact hM.l32
theorem Ms.setSteps {s inp : ByteArray} {n bb bF cF base k : Nat} {m : Im.St} {L : Nat → Value} {w : World} (hM : Ms s inp n bb bF cF base m k L w) (a : Nat) : Ms s inp n bb bF cF base m a (updV L 30 (.int .i64 (a : Nat))) (w.setCell ⟨bb, 30, none⟩ (.int .i64 (a : Nat))) := by
  have low : ∀ {e : TypeId} {size : Nat} {x : Value} {q : Nat} {xs : List Value}, w.ownsRow base e size x q xs → (w.setCell ⟨bb, 30, none⟩ (.int .i64 (a : Nat))).ownsRow base e size x q xs := fun h => ownsRow_setCell_below h (by exact hM.hbb) _
  constructor
  case bx => exact hM.bx.set _ _ (by omega)
  case rs => rw [updV_ne _ _ _ _ (by omega)]; exact low hM.rs
  case rc => rw [updV_ne _ _ _ _ (by omega)]; exact low hM.rc
  case re => rw [updV_ne _ _ _ _ (by omega)]; exact low hM.re
  case dse => rw [updV_ne _ _ _ _ (by omega), updV_ne _ _ _ _ (by omega)]; exact hM.dse
  case fc => exact fun f hf => (World.cell?_of_block (a := ⟨bF, f * 2, none⟩) (Below.heap_setCell _ _ _ _ hM.hne)).trans (hM.fc f hf)
  case lc => exact fun i hi => by rw [updV_ne _ _ _ _ (by omega)]; exact hM.lc i hi
  case hbb => exact hM.hbb
  case hbF => exact hM.hbF
  case hne => exact hM.hne
  case hba => simpa using hM.hba
  case l0 => rw [updV_ne _ _ _ _ (by omega)]; exact hM.l0
  case l1 => rw [updV_ne _ _ _ _ (by omega)]; exact hM.l1
  case l2 => rw [updV_ne _ _ _ _ (by omega)]; exact hM.l2
  case l3 => rw [updV_ne _ _ _ _ (by omega)]; exact hM.l3
  case l4 => rw [updV_ne _ _ _ _ (by omega)]; exact hM.l4
  case l5 => rw [updV_ne _ _ _ _ (by omega)]; exact hM.l5
  case l24 => rw [updV_ne _ _ _ _ (by omega)]; exact hM.l24
  case l25 => rw [updV_ne _ _ _ _ (by omega)]; exact hM.l25
  case l26 => rw [updV_ne _ _ _ _ (by omega)]; exact hM.l26
  case l27 => rw [updV_ne _ _ _ _ (by omega)]; exact hM.l27
  case l28 => rw [updV_ne _ _ _ _ (by omega)]; exact hM.l28
  case l30 => rw [updV_at]
  case l31 => rw [updV_ne _ _ _ _ (by omega)]; exact hM.l31
  case l32 => rw [updV_ne _ _ _ _ (by omega)]; exact hM.l32
theorem Ms.setCel {s inp : ByteArray} {n bb bF cF base k : Nat} {m : Im.St} {L : Nat → Value} {w : World} (hM : Ms s inp n bb bF cF base m k L w) (j a : Nat) (hj : j < 16) : Ms s inp n bb bF cF base { m with cel := Im.upc m.cel j a } k (updV L (7 + j) (.int .i64 (a : Nat))) (w.setCell ⟨bb, (7 + j), none⟩ (.int .i64 (a : Nat))) := by
  have low : ∀ {e : TypeId} {size : Nat} {x : Value} {q : Nat} {xs : List Value}, w.ownsRow base e size x q xs → (w.setCell ⟨bb, (7 + j), none⟩ (.int .i64 (a : Nat))).ownsRow base e size x q xs := fun h => ownsRow_setCell_below h (by exact hM.hbb) _
  constructor
  case bx => exact hM.bx.set _ _ (by omega)
  case rs => rw [updV_ne _ _ _ _ (by omega)]; exact low hM.rs
  case rc => rw [updV_ne _ _ _ _ (by omega)]; exact low hM.rc
  case re => rw [updV_ne _ _ _ _ (by omega)]; exact low hM.re
  case dse => rw [updV_ne _ _ _ _ (by omega), updV_ne _ _ _ _ (by omega)]; exact hM.dse
  case fc => exact fun f hf => (World.cell?_of_block (a := ⟨bF, f * 2, none⟩) (Below.heap_setCell _ _ _ _ hM.hne)).trans (hM.fc f hf)
  case lc => 
    intro i hi
    by_cases he : i = j
    · subst he; rw [updV_at]; simp [Im.upc]
    · rw [updV_ne _ _ _ _ (by omega), hM.lc i hi]; simp [Im.upc, he]
  case hbb => exact hM.hbb
  case hbF => exact hM.hbF
  case hne => exact hM.hne
  case hba => simpa using hM.hba
  case l0 => rw [updV_ne _ _ _ _ (by omega)]; exact hM.l0
  case l1 => rw [updV_ne _ _ _ _ (by omega)]; exact hM.l1
  case l2 => rw [updV_ne _ _ _ _ (by omega)]; exact hM.l2
  case l3 => rw [updV_ne _ _ _ _ (by omega)]; exact hM.l3
  case l4 => rw [updV_ne _ _ _ _ (by omega)]; exact hM.l4
  case l5 => rw [updV_ne _ _ _ _ (by omega)]; exact hM.l5
  case l24 => rw [updV_ne _ _ _ _ (by omega)]; exact hM.l24
  case l25 => rw [updV_ne _ _ _ _ (by omega)]; exact hM.l25
  case l26 => rw [updV_ne _ _ _ _ (by omega)]; exact hM.l26
  case l27 => rw [updV_ne _ _ _ _ (by omega)]; exact hM.l27
  case l28 => rw [updV_ne _ _ _ _ (by omega)]; exact hM.l28
  case l30 => rw [updV_ne _ _ _ _ (by omega)]; exact hM.l30
  case l31 => rw [updV_ne _ _ _ _ (by omega)]; exact hM.l31
  case l32 => rw [updV_ne _ _ _ _ (by omega)]; exact hM.l32
theorem Ms.setStkIn {s inp : ByteArray} {n bb bF cF base k : Nat} {m : Im.St} {L : Nat → Value} {w : World} (hM : Ms s inp n bb bF cF base m k L w) (l : List Nat) (v : Value) (ho : w.ownsRow base 3 1 v l.length (ints l)) (hd : v.ownBlock = none ∨ v.ownBlock ≠ (L 29).ownBlock) : Ms s inp n bb bF cF base { m with stk := l } k (updV L 6 v) (w.setCell ⟨bb, 6, none⟩ v) := by
  have low : ∀ {e : TypeId} {size : Nat} {x : Value} {q : Nat} {xs : List Value}, w.ownsRow base e size x q xs → (w.setCell ⟨bb, 6, none⟩ v).ownsRow base e size x q xs := fun h => ownsRow_setCell_below h (by exact hM.hbb) _
  constructor
  case bx => exact hM.bx.set _ _ (by omega)
  case rs => rw [updV_at]; exact low ho
  case rc => rw [updV_ne _ _ _ _ (by omega)]; exact low hM.rc
  case re => rw [updV_ne _ _ _ _ (by omega)]; exact low hM.re
  case dse => rw [updV_at, updV_ne _ _ _ _ (by omega)]; exact hd
  case fc => exact fun f hf => (World.cell?_of_block (a := ⟨bF, f * 2, none⟩) (Below.heap_setCell _ _ _ _ hM.hne)).trans (hM.fc f hf)
  case lc => exact fun i hi => by rw [updV_ne _ _ _ _ (by omega)]; exact hM.lc i hi
  case hbb => exact hM.hbb
  case hbF => exact hM.hbF
  case hne => exact hM.hne
  case hba => simpa using hM.hba
  case l0 => rw [updV_ne _ _ _ _ (by omega)]; exact hM.l0
  case l1 => rw [updV_ne _ _ _ _ (by omega)]; exact hM.l1
  case l2 => rw [updV_ne _ _ _ _ (by omega)]; exact hM.l2
  case l3 => rw [updV_ne _ _ _ _ (by omega)]; exact hM.l3
  case l4 => rw [updV_ne _ _ _ _ (by omega)]; exact hM.l4
  case l5 => rw [updV_ne _ _ _ _ (by omega)]; exact hM.l5
  case l24 => rw [updV_ne _ _ _ _ (by omega)]; exact hM.l24
  case l25 => rw [updV_ne _ _ _ _ (by omega)]; exact hM.l25
  case l26 => rw [updV_ne _ _ _ _ (by omega)]; exact hM.l26
  case l27 => rw [updV_ne _ _ _ _ (by omega)]; exact hM.l27
  case l28 => rw [updV_ne _ _ _ _ (by omega)]; exact hM.l28
  case l30 => rw [updV_ne _ _ _ _ (by omega)]; exact hM.l30
  case l31 => rw [updV_ne _ _ _ _ (by omega)]; exact hM.l31
  case l32 => rw [updV_ne _ _ _ _ (by omega)]; exact hM.l32
theorem Ms.setCalIn {s inp : ByteArray} {n bb bF cF base k : Nat} {m : Im.St} {L : Nat → Value} {w : World} (hM : Ms s inp n bb bF cF base m k L w) (l : List (Nat × Nat)) (v : Value) (ho : w.ownsRow base 86 2 v l.length (prs l)) : Ms s inp n bb bF cF base { m with cal := l } k (updV L 23 v) (w.setCell ⟨bb, 23, none⟩ v) := by
  have low : ∀ {e : TypeId} {size : Nat} {x : Value} {q : Nat} {xs : List Value}, w.ownsRow base e size x q xs → (w.setCell ⟨bb, 23, none⟩ v).ownsRow base e size x q xs := fun h => ownsRow_setCell_below h (by exact hM.hbb) _
  constructor
  case bx => exact hM.bx.set _ _ (by omega)
  case rs => rw [updV_ne _ _ _ _ (by omega)]; exact low hM.rs
  case rc => rw [updV_at]; exact low ho
  case re => rw [updV_ne _ _ _ _ (by omega)]; exact low hM.re
  case dse => rw [updV_ne _ _ _ _ (by omega), updV_ne _ _ _ _ (by omega)]; exact hM.dse
  case fc => exact fun f hf => (World.cell?_of_block (a := ⟨bF, f * 2, none⟩) (Below.heap_setCell _ _ _ _ hM.hne)).trans (hM.fc f hf)
  case lc => exact fun i hi => by rw [updV_ne _ _ _ _ (by omega)]; exact hM.lc i hi
  case hbb => exact hM.hbb
  case hbF => exact hM.hbF
  case hne => exact hM.hne
  case hba => simpa using hM.hba
  case l0 => rw [updV_ne _ _ _ _ (by omega)]; exact hM.l0
  case l1 => rw [updV_ne _ _ _ _ (by omega)]; exact hM.l1
  case l2 => rw [updV_ne _ _ _ _ (by omega)]; exact hM.l2
  case l3 => rw [updV_ne _ _ _ _ (by omega)]; exact hM.l3
  case l4 => rw [updV_ne _ _ _ _ (by omega)]; exact hM.l4
  case l5 => rw [updV_ne _ _ _ _ (by omega)]; exact hM.l5
  case l24 => rw [updV_ne _ _ _ _ (by omega)]; exact hM.l24
  case l25 => rw [updV_ne _ _ _ _ (by omega)]; exact hM.l25
  case l26 => rw [updV_ne _ _ _ _ (by omega)]; exact hM.l26
  case l27 => rw [updV_ne _ _ _ _ (by omega)]; exact hM.l27
  case l28 => rw [updV_ne _ _ _ _ (by omega)]; exact hM.l28
  case l30 => rw [updV_ne _ _ _ _ (by omega)]; exact hM.l30
  case l31 => rw [updV_ne _ _ _ _ (by omega)]; exact hM.l31
  case l32 => rw [updV_ne _ _ _ _ (by omega)]; exact hM.l32
theorem Ms.setEdgIn {s inp : ByteArray} {n bb bF cF base k : Nat} {m : Im.St} {L : Nat → Value} {w : World} (hM : Ms s inp n bb bF cF base m k L w) (E : Nat → Bool) (v : Value) (ho : w.ownsRow base 3 1 v (Im.el E).length (ints (Im.el E))) (hd : (L 6).ownBlock = none ∨ (L 6).ownBlock ≠ v.ownBlock) : Ms s inp n bb bF cF base { m with edg := E } k (updV L 29 v) (w.setCell ⟨bb, 29, none⟩ v) := by
  have low : ∀ {e : TypeId} {size : Nat} {x : Value} {q : Nat} {xs : List Value}, w.ownsRow base e size x q xs → (w.setCell ⟨bb, 29, none⟩ v).ownsRow base e size x q xs := fun h => ownsRow_setCell_below h (by exact hM.hbb) _
  constructor
  case bx => exact hM.bx.set _ _ (by omega)
  case rs => rw [updV_ne _ _ _ _ (by omega)]; exact low hM.rs
  case rc => rw [updV_ne _ _ _ _ (by omega)]; exact low hM.rc
  case re => rw [updV_at]; exact low ho
  case dse => rw [updV_at, updV_ne _ _ _ _ (by omega)]; exact hd
  case fc => exact fun f hf => (World.cell?_of_block (a := ⟨bF, f * 2, none⟩) (Below.heap_setCell _ _ _ _ hM.hne)).trans (hM.fc f hf)
  case lc => exact fun i hi => by rw [updV_ne _ _ _ _ (by omega)]; exact hM.lc i hi
  case hbb => exact hM.hbb
  case hbF => exact hM.hbF
  case hne => exact hM.hne
  case hba => simpa using hM.hba
  case l0 => rw [updV_ne _ _ _ _ (by omega)]; exact hM.l0
  case l1 => rw [updV_ne _ _ _ _ (by omega)]; exact hM.l1
  case l2 => rw [updV_ne _ _ _ _ (by omega)]; exact hM.l2
  case l3 => rw [updV_ne _ _ _ _ (by omega)]; exact hM.l3
  case l4 => rw [updV_ne _ _ _ _ (by omega)]; exact hM.l4
  case l5 => rw [updV_ne _ _ _ _ (by omega)]; exact hM.l5
  case l24 => rw [updV_ne _ _ _ _ (by omega)]; exact hM.l24
  case l25 => rw [updV_ne _ _ _ _ (by omega)]; exact hM.l25
  case l26 => rw [updV_ne _ _ _ _ (by omega)]; exact hM.l26
  case l27 => rw [updV_ne _ _ _ _ (by omega)]; exact hM.l27
  case l28 => rw [updV_ne _ _ _ _ (by omega)]; exact hM.l28
  case l30 => rw [updV_ne _ _ _ _ (by omega)]; exact hM.l30
  case l31 => rw [updV_ne _ _ _ _ (by omega)]; exact hM.l31
  case l32 => rw [updV_ne _ _ _ _ (by omega)]; exact hM.l32

theorem Ms.grownS {s inp : ByteArray} {n bb bF cF base k : Nat} {m : Im.St} {L : Nat → Value} {w : World} {w1 : World} (hM : Ms s inp n bb bF cF base m k L w) (hg : w.grownBy w1 (L 6).ownBlock) (l : List Nat) (v : Value) (ho : w1.ownsRow base 3 1 v l.length (ints l)) (hf : Fresh w (L 6) v) :
    Ms s inp n bb bF cF base { m with stk := l } k (updV L 6 v) (w1.setCell ⟨bb, 6, none⟩ v) ∧ Kx base bb w (w1.setCell ⟨bb, 6, none⟩ v) := by
  have hrow : ∀ j, (L 6).ownBlock = some j → base ≤ j ∧ j < w.heap.size := hM.rs.lt
  have hbb : some bb ≠ (L 6).ownBlock := fun e => by have := (hrow bb e.symm).1; have := hM.hbb; omega
  have hbF : some bF ≠ (L 6).ownBlock := fun e => by have := (hrow bF e.symm).1; have := hM.hbF; omega
  have low : ∀ {e : TypeId} {size : Nat} {x : Value} {q : Nat} {xs : List Value}, w1.ownsRow base e size x q xs → (w1.setCell ⟨bb, 6, none⟩ v).ownsRow base e size x q xs := fun h => ownsRow_setCell_below h (by exact hM.hbb) _
  have hrc : (L 23).ownBlock = none ∨ (L 23).ownBlock ≠ (L 6).ownBlock := owns_kind hM.rc hM.rs (by decide)
  have hre : (L 29).ownBlock = none ∨ (L 29).ownBlock ≠ (L 6).ownBlock := by
    rcases hM.dse with h | h
    · rcases hx : (L 29).ownBlock with _ | x
      · left; rfl
      · right; rw [h]; simp
    · right; exact fun e => h e.symm
  refine ⟨?_, ((Kx.refl base bb w).grown hg hM.hba (fun j hj => (hrow j hj).1)).set _ _⟩
  constructor
  case bx => exact (hM.bx.grown hg hbb).set _ _ (by omega)
  case rs => rw [updV_at]; exact low ho
  case rc => rw [updV_ne _ _ _ _ (by omega)]; exact low (hM.rc.kept hg hrc)
  case re => rw [updV_ne _ _ _ _ (by omega)]; exact low (hM.re.kept hg hre)
  case dse => 
    rw [updV_at, updV_ne _ _ _ _ (by omega)]
    rcases hv : v.ownBlock with _ | x
    · left; rfl
    · right
      intro e
      rcases hf x hv with h | h
      · rcases hM.dse with h' | h'
        · rw [h'] at h; simp at h
        · exact h' (h.trans e)
      · have := (hM.re.lt x e.symm).2; omega
  case fc => exact fun f hf => (World.cell?_of_block (a := ⟨bF, f * 2, none⟩) (Below.heap_setCell _ _ _ _ hM.hne)).trans (hg.cell (hM.fc f hf) hbF)
  case lc => exact fun i hi => by rw [updV_ne _ _ _ _ (by omega)]; exact hM.lc i hi
  case hbb => exact hM.hbb
  case hbF => exact hM.hbF
  case hne => exact hM.hne
  case hba => have := hM.hba; have := hg.size; simp; omega
  case l0 => rw [updV_ne _ _ _ _ (by omega)]; exact hM.l0
  case l1 => rw [updV_ne _ _ _ _ (by omega)]; exact hM.l1
  case l2 => rw [updV_ne _ _ _ _ (by omega)]; exact hM.l2
  case l3 => rw [updV_ne _ _ _ _ (by omega)]; exact hM.l3
  case l4 => rw [updV_ne _ _ _ _ (by omega)]; exact hM.l4
  case l5 => rw [updV_ne _ _ _ _ (by omega)]; exact hM.l5
  case l24 => rw [updV_ne _ _ _ _ (by omega)]; exact hM.l24
  case l25 => rw [updV_ne _ _ _ _ (by omega)]; exact hM.l25
  case l26 => rw [updV_ne _ _ _ _ (by omega)]; exact hM.l26
  case l27 => rw [updV_ne _ _ _ _ (by omega)]; exact hM.l27
  case l28 => rw [updV_ne _ _ _ _ (by omega)]; exact hM.l28
  case l30 => rw [updV_ne _ _ _ _ (by omega)]; exact hM.l30
  case l31 => rw [updV_ne _ _ _ _ (by omega)]; exact hM.l31
  case l32 => rw [updV_ne _ _ _ _ (by omega)]; exact hM.l32
theorem Ms.grownC {s inp : ByteArray} {n bb bF cF base k : Nat} {m : Im.St} {L : Nat → Value} {w : World} {w1 : World} (hM : Ms s inp n bb bF cF base m k L w) (hg : w.grownBy w1 (L 23).ownBlock) (l : List (Nat × Nat)) (v : Value) (ho : w1.ownsRow base 86 2 v l.length (prs l)) (_hf : Fresh w (L 23) v) :
    Ms s inp n bb bF cF base { m with cal := l } k (updV L 23 v) (w1.setCell ⟨bb, 23, none⟩ v) ∧ Kx base bb w (w1.setCell ⟨bb, 23, none⟩ v) := by
  have hrow : ∀ j, (L 23).ownBlock = some j → base ≤ j ∧ j < w.heap.size := hM.rc.lt
  have hbb : some bb ≠ (L 23).ownBlock := fun e => by have := (hrow bb e.symm).1; have := hM.hbb; omega
  have hbF : some bF ≠ (L 23).ownBlock := fun e => by have := (hrow bF e.symm).1; have := hM.hbF; omega
  have low : ∀ {e : TypeId} {size : Nat} {x : Value} {q : Nat} {xs : List Value}, w1.ownsRow base e size x q xs → (w1.setCell ⟨bb, 23, none⟩ v).ownsRow base e size x q xs := fun h => ownsRow_setCell_below h (by exact hM.hbb) _
  have hrs : (L 6).ownBlock = none ∨ (L 6).ownBlock ≠ (L 23).ownBlock := owns_kind hM.rs hM.rc (by decide)
  have hre : (L 29).ownBlock = none ∨ (L 29).ownBlock ≠ (L 23).ownBlock := owns_kind hM.re hM.rc (by decide)
  refine ⟨?_, ((Kx.refl base bb w).grown hg hM.hba (fun j hj => (hrow j hj).1)).set _ _⟩
  constructor
  case bx => exact (hM.bx.grown hg hbb).set _ _ (by omega)
  case rs => rw [updV_ne _ _ _ _ (by omega)]; exact low (hM.rs.kept hg hrs)
  case rc => rw [updV_at]; exact low ho
  case re => rw [updV_ne _ _ _ _ (by omega)]; exact low (hM.re.kept hg hre)
  case dse => rw [updV_ne _ _ _ _ (by omega), updV_ne _ _ _ _ (by omega)]; exact hM.dse
  case fc => exact fun f hf => (World.cell?_of_block (a := ⟨bF, f * 2, none⟩) (Below.heap_setCell _ _ _ _ hM.hne)).trans (hg.cell (hM.fc f hf) hbF)
  case lc => exact fun i hi => by rw [updV_ne _ _ _ _ (by omega)]; exact hM.lc i hi
  case hbb => exact hM.hbb
  case hbF => exact hM.hbF
  case hne => exact hM.hne
  case hba => have := hM.hba; have := hg.size; simp; omega
  case l0 => rw [updV_ne _ _ _ _ (by omega)]; exact hM.l0
  case l1 => rw [updV_ne _ _ _ _ (by omega)]; exact hM.l1
  case l2 => rw [updV_ne _ _ _ _ (by omega)]; exact hM.l2
  case l3 => rw [updV_ne _ _ _ _ (by omega)]; exact hM.l3
  case l4 => rw [updV_ne _ _ _ _ (by omega)]; exact hM.l4
  case l5 => rw [updV_ne _ _ _ _ (by omega)]; exact hM.l5
  case l24 => rw [updV_ne _ _ _ _ (by omega)]; exact hM.l24
  case l25 => rw [updV_ne _ _ _ _ (by omega)]; exact hM.l25
  case l26 => rw [updV_ne _ _ _ _ (by omega)]; exact hM.l26
  case l27 => rw [updV_ne _ _ _ _ (by omega)]; exact hM.l27
  case l28 => rw [updV_ne _ _ _ _ (by omega)]; exact hM.l28
  case l30 => rw [updV_ne _ _ _ _ (by omega)]; exact hM.l30
  case l31 => rw [updV_ne _ _ _ _ (by omega)]; exact hM.l31
  case l32 => rw [updV_ne _ _ _ _ (by omega)]; exact hM.l32

/-- 'n & 255'. -/
theorem wrap_small (t : Nat) (h : t < 256) : IntKind.wrap .i64 (t : Int) = (t : Int) := by
  unfold IntKind.wrap
  have p : ((2 : Int) ^ IntKind.bits .i64) = 18446744073709551616 := by decide
  have p2 : ((2 : Int) ^ (IntKind.bits .i64 - 1)) = 9223372036854775808 := by decide
  rw [p, p2]
  have e : (t : Int) % 18446744073709551616 = t := by omega
  simp only [e]
  rw [if_neg]
  simp only [Bool.and_eq_true, decide_eq_true_eq, not_and]
  intro _
  omega
theorem and255 (x : Int) : bits .and .i64 x 255 = x % 256 := by
  have h1 : (BitVec.ofInt 64 x &&& BitVec.ofInt 64 255).toNat = (x % 18446744073709551616).toNat % 256 := by
    rw [BitVec.toNat_and, BitVec.toNat_ofInt, BitVec.toNat_ofInt]
    have e : ((255 : Int) % ((2 ^ 64 : Nat) : Int)).toNat = 2 ^ 8 - 1 := by decide
    have e2 : ((2 ^ 64 : Nat) : Int) = 18446744073709551616 := by decide
    rw [e, Nat.and_two_pow_sub_one_eq_mod, e2]
  show IntKind.wrap .i64 ((BitVec.ofInt 64 x &&& BitVec.ofInt 64 255).toNat : Int) = _
  rw [h1, wrap_small _ (by omega)]
  omega

theorem owns_mono {w : World} {base base' : Nat} {e : TypeId} {size : Nat} {v : Value} {n : Nat} {xs : List Value} (h : w.ownsRow base e size v n xs) (hb : base' ≤ base) : w.ownsRow base' e size v n xs := by
  obtain ⟨hl, h | ⟨g, cap, cur, h1, h2, h3⟩⟩ := h
  · exact ⟨hl, Or.inl h⟩
  · exact ⟨hl, Or.inr ⟨g, cap, cur, h1, by omega, h3⟩⟩
theorem Ms.below {s inp : ByteArray} {n bb bF cF base k : Nat} {m : Im.St} {L : Nat → Value} {w w1 : World} (hM : Ms s inp n bb bF cF base m k L w) (hb : Below w.heap.size w w1) : Ms s inp n bb bF cF base m k L w1 := by
  have hg : w.grownBy w1 none := ⟨hb.os, hb.tape, hb.output, hb.size, fun j hj _ => hb.block j hj⟩
  exact { hM with bx := hM.bx.grown hg (by simp), rs := hM.rs.kept hg (by cases (L 6).ownBlock <;> simp), rc := hM.rc.kept hg (by cases (L 23).ownBlock <;> simp), re := hM.re.kept hg (by cases (L 29).ownBlock <;> simp), fc := fun f hf => hg.cell (hM.fc f hf) (by simp), hba := Nat.le_trans hM.hba hb.size }
theorem Kx.below {B b : Nat} {w w1 w2 : World} (h : Kx B b w w1) (hb : Below w1.heap.size w1 w2) (hB : B ≤ w1.heap.size) : Kx B b w w2 :=
  h.trans ⟨hb.os, hb.tape, hb.output, hb.size, fun j hj _ => hb.block j (by omega)⟩

/-- how pop ends. -/
def PopPost (s inp : ByteArray) (n bb bF cF base : Nat) (m : Im.St) (k : Nat) (w w' : World) (e : Ending) : Prop :=
  e = .returned (.int .i64 (Im.top m.stk : Nat)) ∧ (∃ L', Ms s inp n bb bF cF base { m with stk := m.stk.take (m.stk.length - 1) } k L' w') ∧ Kx base bb w w'

set_option maxHeartbeats 1600000 in
set_option maxRecDepth 100000 in
theorem pop_any (s inp : ByteArray) (n bb bF cF base k : Nat) (m : Im.St) (L : Nat → Value) (w : World) (hM : Ms s inp n bb bF cF base m k L w) (hl : 0 < m.stk.length) (hl2 : m.stk.length ≤ 100) :
    Calls Tryz.prog 94 #[.pointer (some ⟨bb, 0, none⟩)] w fun e w' => PopPost s inp n bb bF cF base m k w w' e := by
  obtain ⟨g, cap, hv, hgb, hnc, hcm, hgl, hcells⟩ := owns_some hM.rs hl
  have c6 := hM.bx.cell 6 (by omega)
  rw [hv] at c6
  have ct := hcells (m.stk.length - 1) _ (ints_get m.stk (m.stk.length - 1) (by omega))
  have hf6 := hM.bx.frz 6
  have hgne : g ≠ bb := by have := hM.hbb; omega
  have HP : Hid (∀ nq, PopPost s inp n bb bF cF base m k w ((w.setCell ⟨bb, 6, none⟩ (.slice (some ⟨g, 0, none⟩) (m.stk.length - 1) cap)).drewN nq) (.returned (.int .i64 (m.stk[m.stk.length - 1]?.getD 0 : Nat)))) := by
    intro nq
    refine ⟨rfl, ⟨updV L 6 (.slice (some ⟨g, 0, none⟩) (m.stk.length - 1) cap), ?_⟩, ((Kx.refl base bb w).set _ _).drewN _⟩
    have hrs := hM.rs
    rw [hv] at hrs
    refine (hM.setStkIn _ _ ?_ ?_).drewN nq
    · rw [ints_take, List.length_take, Nat.min_eq_left (by omega)]
      exact owns_take hrs (by omega)
    · have := hM.dse
      rw [hv] at this
      exact this
  clear hcells hM hv
  generalize m.stk[m.stk.length - 1]?.getD 0 = x at *
  obtain ⟨q, hq⟩ : ∃ q, m.stk.length = q + 1 := ⟨m.stk.length - 1, by omega⟩
  rw [hq] at c6 ct HP hnc hl2
  rw [Nat.add_sub_cancel] at ct HP
  unfold maxLen at hcm
  clear hq hl
  go_enter Tryz.func94, Tryz.ntmps94
  go_wp2
  go_quiet (fail)
  go_wp2
  go_region
  go_wp2
  go_ret
  exact HP.out _

/-- how push ends. -/
def PushPost (s inp : ByteArray) (n bb bF cF base : Nat) (m : Im.St) (k y : Nat) (w w' : World) (e : Ending) : Prop :=
  e = .returned (.tuple #[]) ∧ (∃ L', Ms s inp n bb bF cF base { m with stk := m.stk ++ [y] } k L' w') ∧ Kx base bb w w'

set_option maxHeartbeats 1600000 in
set_option maxRecDepth 100000 in
theorem push_any (s inp : ByteArray) (n bb bF cF base k : Nat) (m : Im.St) (L : Nat → Value) (x : Int) (y : Nat) (w : World) (hM : Ms s inp n bb bF cF base m k L w) (hl2 : m.stk.length ≤ 100) (hy : x % 256 = (y : Int)) :
    Calls Tryz.prog 93 #[.pointer (some ⟨bb, 0, none⟩), .int .i64 x] w fun e w' => PushPost s inp n bb bF cF base m k y w w' e := by
  obtain ⟨i0, hi, hz0, hz1, hz2⟩ := info_parts Tryz.infoInt
  have c6 := hM.bx.cell 6 (by omega)
  have hf6 := hM.bx.frz 6
  have hbits : bits .and .i64 x 255 = (y : Int) := (and255 x).trans hy
  have hown := hM.rs
  have hba := hM.hba
  have hbb := hM.hbb
  have hbl := hM.bx.lt
  have HM : Hid (Ms s inp n bb bF cF base m k L w) := hM
  clear hM hy
  generalize hv6 : L 6 = v6 at *
  have HV : Hid (L 6 = v6) := hv6
  clear hv6
  go_enter Tryz.func93, Tryz.ntmps93
  go_wp2_with (at_builtin; refine wpList_append_fresh rfl _ _ 32 rfl base 3 i0 (.int .i64 0) 1 8 Tryz.undInts hi hz0 hz1 hz2 rfl (by decide) _ _ _ rfl (hown.alloc _) ⟨w.heap.size, 0, none⟩ 1 1 [.int .i64 y] rfl rfl ?c1 ?c2 ?c3 ?c4 ?c5 ?_)
  case c1 =>
    intro i u hj
    match i, hj with
    | 0, hj => simp at hj; subst hj; simp [Addr.add]
  case c2 => intro u hu; simp at hu; subst hu; rfl
  case c3 => unfold maxLen; omega
  case c4 => omega
  case c5 => simp; omega
  · intro v' w1 hown' hgrow hfr
    have hrow : some bb ≠ v6.ownBlock := fun e => by have := (hown.lt bb e.symm).1; omega
    have c6' : w1.cell? ⟨bb, 6, none⟩ = some v6 := hgrow.cell ((World.cell?_alloc_lt _ _ ⟨bb, 6, none⟩ hbl).trans c6) hrow
    have f6' : w1.frozen? ⟨bb, 6, none⟩ = false := (World.frozen?_of_block (a := ⟨bb, 6, none⟩) (hgrow.block bb (by simp; omega) hrow)).trans ((World.frozen?_alloc_old _ _ ⟨bb, 6, none⟩ (Nat.ne_of_lt hbl)).trans hf6)
    have HP : Hid (PushPost s inp n bb bF cF base m k y w (w1.setCell ⟨bb, 6, none⟩ v') (.returned (.tuple #[]))) := by
      have hA := HM.out.alloc (.cells #[.int .i64 y] 3)
      have hs := hA.grownS (w1 := w1) (by rw [HV.out]; exact hgrow) (m.stk ++ [y]) v' (by simpa [ints] using hown') (by rw [HV.out]; exact hfr)
      exact ⟨rfl, ⟨_, hs.1⟩, ((Kx.refl base bb w).alloc hba _).trans hs.2⟩
    obtain ⟨g', cap', hv', -⟩ := owns_some hown' (by omega)
    clear hown' hgrow hfr hown
    subst hv'
    go_wp2
    go_end0
    exact HP.out
end Go.Proofs.YtbmaiioecnmopaaGreatDoor

/-
  THE DOCUMENT's SIDE (package triageref): edge. By the verifier of the loop 'triage'.
-/
namespace Go.Proofs.YtbmaiioecnmopaaGreatDoor
open Go.RowKit

theorem owns_shape {w : World} {base : Nat} {e : TypeId} {size : Nat} {v : Value} {n : Nat} {xs : List Value} (h : w.ownsRow base e size v n xs) :
    ∃ ao cap, v = .slice ao n cap ∧ n ≤ cap ∧ cap ≤ maxLen ∧ (0 < n → ∃ g, ao = some ⟨g, 0, none⟩ ∧ base ≤ g ∧ g < w.heap.size ∧ ∀ j u, xs[j]? = some u → w.cell? ⟨g, j, none⟩ = some u) := by
  by_cases hn : 0 < n
  · obtain ⟨g, cap, hv, h1, h2, h3, h4, h5⟩ := owns_some h hn
    exact ⟨_, cap, hv, h2, h3, fun _ => ⟨g, rfl, h1, h4, h5⟩⟩
  · obtain ⟨_, ⟨hv, h0⟩ | ⟨g, cap, cur, hv, _, _, h1, h2, _⟩⟩ := h
    · exact ⟨none, 0, by rw [hv, h0], by omega, by unfold maxLen; omega, fun h => absurd h hn⟩
    · exact ⟨_, cap, hv, h1, h2, fun h => absurd h hn⟩

/-- how edge ends. -/
def EdgePost (s inp : ByteArray) (n bb bF cF base : Nat) (m : Im.St) (k e : Nat) (w w' : World) (en : Ending) : Prop :=
  en = .returned (.tuple #[]) ∧ (∃ L', Ms s inp n bb bF cF base { m with edg := Im.up m.edg e } k L' w') ∧ Kx base bb w w'

theorem edge_same {s inp : ByteArray} {n bb bF cF base k : Nat} {m : Im.St} {L : Nat → Value} {w w1 : World} (e : Nat) (hM : Ms s inp n bb bF cF base m k L w) (hE : m.edg e = true) (hb : Below w.heap.size w w1) : EdgePost s inp n bb bF cF base m k e w w1 (.returned (.tuple #[])) := by
  have hu : Im.up m.edg e = m.edg := by
    funext i; unfold Im.up; split
    · next hi => rw [hi, hE]
    · rfl
  refine ⟨rfl, ⟨L, ?_⟩, (Kx.refl base bb w).below hb hM.hba⟩
  rw [hu]
  exact hM.below hb
theorem edge_new {s inp : ByteArray} {n bb bF cF base k : Nat} {m : Im.St} {L : Nat → Value} {w w1 : World} (e : Nat) (v : Value) (hM : Ms s inp n bb bF cF base m k L w) (he : e < 400) (hb : Below w.heap.size w w1)
    (ho : w1.ownsRow w.heap.size 3 1 v (Im.elLo m.edg e ++ e :: Im.elHi m.edg e).length (ints (Im.elLo m.edg e ++ e :: Im.elHi m.edg e))) : EdgePost s inp n bb bF cF base m k e w (w1.setCell ⟨bb, 29, none⟩ v) (.returned (.tuple #[])) := by
  rw [← Im.el_new m.edg e he] at ho
  refine ⟨rfl, ⟨_, (hM.below hb).setEdgIn (Im.up m.edg e) v (owns_mono ho hM.hba) ?_⟩, ((Kx.refl base bb w).below hb hM.hba).set _ _⟩
  rcases h6 : (L 6).ownBlock with _ | x
  · left; rfl
  · right
    intro hx
    have h1 := (hM.rs.lt x h6).2
    have h2 := (ho.lt x hx.symm).1
    omega

theorem snoc_owns {w : World} {base : Nat} {v : Value} {l : List Nat} {x : Nat} (h : w.ownsRow base 3 1 v (l.length + 1) (ints l ++ [.int .i64 (x : Int)])) : w.ownsRow base 3 1 v (l ++ [x]).length (ints (l ++ [x])) := by
  simpa [ints] using h
theorem take_snoc' (l : List Nat) (k : Nat) (h : k < l.length) : l.take (k + 1) = l.take k ++ [l[k]?.getD 0] := by
  rw [List.take_add_one, List.getElem?_eq_getElem h]; rfl

set_option maxHeartbeats 3200000 in
set_option maxRecDepth 100000 in
theorem edge_old (s inp : ByteArray) (n bb bF cF base k e : Nat) (m : Im.St) (L : Nat → Value) (w : World) (hM : Ms s inp n bb bF cF base m k L w) (he : e < 400) (hE : m.edg e = true) :
    Calls Tryz.prog 105 #[.pointer (some ⟨bb, 0, none⟩), .int .i64 e] w fun en w' => EdgePost s inp n bb bF cF base m k e w w' en := by
  obtain ⟨i0, hi, hz0, hz1, hz2⟩ := info_parts Tryz.infoInt
  have HP : Hid (∀ w1, Below w.heap.size w w1 → EdgePost s inp n bb bF cF base m k e w w1 (.returned (.tuple #[]))) := fun w1 hb => edge_same e hM hE hb
  obtain ⟨ao, cap, hv, hnc, hcm, hcl⟩ := owns_shape hM.re
  have c29 := hM.bx.cell 29 (by omega)
  rw [hv] at c29
  have hbl := hM.bx.lt
  have hX : e ∈ Im.el m.edg := (Im.el_mem m.edg e he).2 hE
  have hXl := Im.el_len m.edg
  -- the place of e
  have hlo : Im.el m.edg = Im.elLo m.edg e ++ e :: Im.elHi m.edg e := by rw [← Im.el_new m.edg e he, Im.el_old m.edg e hE]
  have HLO : Hid (∀ j, j < (Im.elLo m.edg e).length → (Im.el m.edg)[j]?.getD 0 < e) := by
    intro j hj
    rw [hlo, List.getElem?_append_left hj, List.getElem?_eq_getElem hj]
    exact Im.elLo_lt m.edg e _ (List.getElem_mem hj)
  have HAT : Hid ((Im.el m.edg)[(Im.elLo m.edg e).length]?.getD 0 = e) := by
    show (Im.el m.edg)[(Im.elLo m.edg e).length]?.getD 0 = e
    rw [hlo, List.getElem?_append_right (Nat.le_refl _)]; simp
  have hpl : (Im.elLo m.edg e).length < (Im.el m.edg).length := by
    have := congrArg List.length hlo
    simp at this
    omega
  have hcells : ∀ g, ao = some ⟨g, 0, none⟩ → True := fun _ _ => trivial
  obtain ⟨g, hao, hgb, hgl, hcl2⟩ := hcl (by omega)
  subst hao
  have HC : Hid (∀ j, j < (Im.el m.edg).length → w.cell? ⟨g, j, none⟩ = some (.int .i64 ((Im.el m.edg)[j]?.getD 0 : Nat))) := fun j hj => hcl2 j _ (ints_get _ j hj)
  clear hcl hcl2 hM hv hX hE hlo hcells
  generalize (Im.elLo m.edg e).length = p at *
  generalize Im.el m.edg = X at *
  obtain ⟨len, HLEN⟩ : ∃ len, Hid (X.length = len) := ⟨_, rfl⟩
  rw [HLEN.out] at c29 hnc hXl HC hpl
  unfold maxLen at hcm
  go_enter Tryz.func105, Tryz.ntmps105
  go_wp2
  go_loopw [4, 5, 6] (fun v d i wr => ∃ j : Nat, i = .int .i64 j ∧ d = .bool false ∧ j ≤ p ∧ wr.ownsRow w.heap.size 3 1 v (X.take j).length (ints (X.take j)) ∧ Below w.heap.size w wr)
    (fun _ _ i _ => len - (intOf i).toNat)
  case atStart => exact ⟨0, rfl, rfl, by omega, by simpa using World.ownsRow_nil _ _ _ _, Below.refl _ _⟩
  case round =>
    obtain ⟨j, rfl, rfl, hj, hown, hb⟩ := hrel
    have c29r := (hb.cell (p := ⟨bb, 29, none⟩) hbl).trans c29
    have cj := (hb.cell (p := ⟨g, j, none⟩) hgl).trans (HC.out j (by omega))
    have hlt : j < len := by omega
    by_cases hjp : j = p
    · subst hjp
      have hx : ((((X[j]?.getD 0 : Nat) : Int)) == (e : Int)) = true := by rw [HAT.out]; simp
      have HB : Hid (Below w.heap.size w wr) := hb
      generalize X[j]?.getD 0 = x at *
      go_wp2
      first
        | (go_end0; exact HP.out _ HB.out)
        | exact bodyPost_ret (v := .tuple #[]) (by simp [results, Tryz.results105, go_sem]) rfl (HP.out _ HB.out)
    · have hlx := HLO.out j (by omega)
      have hx : ((((X[j]?.getD 0 : Nat) : Int)) == (e : Int)) = false := by rw [beq_eq_false_iff_ne]; omega
      have HT : Hid (X.take (j + 1) = X.take j ++ [X[j]?.getD 0]) := take_snoc' X j (by rw [HLEN.out]; exact hlt)
      have hll : (X.take j).length ≤ 400 := by have := List.length_take_le j X; omega
      generalize X[j]?.getD 0 = x at *
      go_wp2_with (at_builtin; refine wpList_append_own _ rfl _ _ 32 rfl w.heap.size 3 i0 (.int .i64 0) 1 8 Tryz.undInts hi hz0 hz1 hz2 rfl (by decide) _ _ _ rfl (hown.alloc _) ⟨wr.heap.size, 0, none⟩ 1 1 [.int .i64 x] rfl rfl ?c1 ?c2 ?c3 ?c4 ?c5 ?_)
      case c1 =>
        intro i u hj
        match i, hj with
        | 0, hj => simp at hj; subst hj; simp [Addr.add]
      case c2 => intro u hu; simp at hu; subst hu; rfl
      case c3 => unfold maxLen; omega
      case c4 => omega
      case c5 => have := hb.size; simp; omega
      · intro v' w1 hown' hgrow _
        have hb1 := below_app hown hgrow hb hb.size
        have ho1 : w1.ownsRow w.heap.size 3 1 v' (X.take (j + 1)).length (ints (X.take (j + 1))) := by rw [HT.out]; simpa [ints] using hown'
        clear hown' hgrow hown hb
        go_wp2
        go_roundw
        case rel => exact ⟨j + 1, by go_num, rfl, by omega, ho1, hb1⟩
        case measure => simp [intOf]; omega
end Go.Proofs.YtbmaiioecnmopaaGreatDoor

/-
  THE DOCUMENT's SIDE (package triageref): edge, one that is new. By the verifier of the loop 'triage'.
-/
namespace Go.Proofs.YtbmaiioecnmopaaGreatDoor
open Go.RowKit

/-- what edge has gathered behind j elements. -/
def accE (lo hi : List Nat) (e j : Nat) : List Nat := if j ≤ lo.length then lo.take j else lo ++ e :: hi.take (j - lo.length)
theorem accE_lo (lo hi : List Nat) (e j : Nat) (h : j < lo.length) : accE lo hi e (j + 1) = accE lo hi e j ++ [(lo ++ hi)[j]?.getD 0] := by
  unfold accE
  rw [if_pos (by omega), if_pos (by omega), List.take_add_one, List.getElem?_append_left h, List.getElem?_eq_getElem h]; rfl
theorem accE_at (lo hi : List Nat) (e : Nat) (h : 0 < hi.length) : accE lo hi e (lo.length + 1) = (accE lo hi e lo.length ++ [e]) ++ [(lo ++ hi)[lo.length]?.getD 0] := by
  unfold accE
  rw [if_neg (by omega), if_pos (Nat.le_refl _), List.take_length, List.getElem?_append_right (Nat.le_refl _), Nat.sub_self, Nat.add_sub_cancel_left]
  cases hi with
  | nil => simp at h
  | cons a r => simp
theorem accE_hi (lo hi : List Nat) (e j : Nat) (h : lo.length < j) (h2 : j < (lo ++ hi).length) : accE lo hi e (j + 1) = accE lo hi e j ++ [(lo ++ hi)[j]?.getD 0] := by
  unfold accE
  have h3 : j - lo.length < hi.length := by simp at h2; omega
  rw [if_neg (by omega), if_neg (by omega), show j + 1 - lo.length = (j - lo.length) + 1 by omega, List.take_add_one, List.getElem?_append_right (by omega), List.getElem?_eq_getElem h3]
  simp
theorem accE_end (lo hi : List Nat) (e : Nat) : (if (lo ++ hi).length ≤ lo.length then accE lo hi e (lo ++ hi).length ++ [e] else accE lo hi e (lo ++ hi).length) = lo ++ e :: hi := by
  by_cases h : (lo ++ hi).length ≤ lo.length
  · have : hi = [] := List.eq_nil_of_length_eq_zero (by simp only [List.length_append] at h; omega)
    subst this
    rw [if_pos h]
    unfold accE
    rw [if_pos h]
    simp
  · rw [if_neg h]
    unfold accE
    rw [if_neg h]
    simp
theorem accE_len (lo hi : List Nat) (e j : Nat) : (accE lo hi e j).length ≤ j + 1 := by
  unfold accE
  split
  · have := List.length_take_le j lo; omega
  · simp; omega

set_option maxHeartbeats 6400000 in
set_option maxRecDepth 100000 in
theorem edge_fresh (s inp : ByteArray) (n bb bF cF base k e : Nat) (m : Im.St) (L : Nat → Value) (w : World) (hM : Ms s inp n bb bF cF base m k L w) (he : e < 400) (hE : m.edg e = false) :
    Calls Tryz.prog 105 #[.pointer (some ⟨bb, 0, none⟩), .int .i64 e] w fun en w' => EdgePost s inp n bb bF cF base m k e w w' en := by
  obtain ⟨i0, hi, hz0, hz1, hz2⟩ := info_parts Tryz.infoInt
  have HP : Hid (∀ w1 v, Below w.heap.size w w1 → w1.ownsRow w.heap.size 3 1 v (Im.elLo m.edg e ++ e :: Im.elHi m.edg e).length (ints (Im.elLo m.edg e ++ e :: Im.elHi m.edg e)) → EdgePost s inp n bb bF cF base m k e w (w1.setCell ⟨bb, 29, none⟩ v) (.returned (.tuple #[]))) := fun w1 v hb ho => edge_new e v hM he hb ho
  obtain ⟨ao, cap, hv, hnc, hcm, hcl⟩ := owns_shape hM.re
  have c29 := hM.bx.cell 29 (by omega)
  have f29 := hM.bx.frz 29
  rw [hv] at c29
  have hbl := hM.bx.lt
  have hXl := Im.el_len m.edg
  have hX := Im.el_split m.edg e he hE
  have HLO : Hid (∀ j, j < (Im.elLo m.edg e).length → (Im.elLo m.edg e ++ Im.elHi m.edg e)[j]?.getD 0 < e) := by
    intro j hj
    rw [List.getElem?_append_left hj, List.getElem?_eq_getElem hj]
    exact Im.elLo_lt m.edg e _ (List.getElem_mem hj)
  have HHI : Hid (∀ j, (Im.elLo m.edg e).length ≤ j → j < (Im.elLo m.edg e ++ Im.elHi m.edg e).length → e < (Im.elLo m.edg e ++ Im.elHi m.edg e)[j]?.getD 0) := by
    intro j h1 h2
    have h3 : j - (Im.elLo m.edg e).length < (Im.elHi m.edg e).length := by simp at h2; omega
    rw [List.getElem?_append_right h1, List.getElem?_eq_getElem h3]
    exact Im.elHi_gt m.edg e _ (List.getElem_mem h3)
  rw [hX] at c29 hnc hXl hcl
  have HC : Hid (∀ j, j < (Im.elLo m.edg e ++ Im.elHi m.edg e).length → ∃ g, ao = some ⟨g, 0, none⟩ ∧ g < w.heap.size ∧ w.cell? ⟨g, j, none⟩ = some (.int .i64 ((Im.elLo m.edg e ++ Im.elHi m.edg e)[j]?.getD 0 : Nat))) := fun j hj => by
    obtain ⟨g, h1, _, h2, h3⟩ := hcl (by omega)
    exact ⟨g, h1, h2, h3 j _ (ints_get _ j hj)⟩
  clear hcl hM hv hE hX
  generalize Im.elLo m.edg e = lo at *
  generalize Im.elHi m.edg e = hh at *
  obtain ⟨len, HLEN⟩ : ∃ len, Hid ((lo ++ hh).length = len) := ⟨_, rfl⟩
  obtain ⟨q, HQ⟩ : ∃ q, Hid (lo.length = q) := ⟨_, rfl⟩
  have hqlen : q ≤ len := by rw [← HQ.out, ← HLEN.out]; simp
  have A1 : Hid (∀ j, j < q → accE lo hh e (j + 1) = accE lo hh e j ++ [(lo ++ hh)[j]?.getD 0]) := fun j hj => accE_lo lo hh e j (by rw [HQ.out]; exact hj)
  have A2 : Hid (q < len → accE lo hh e (q + 1) = (accE lo hh e q ++ [e]) ++ [(lo ++ hh)[q]?.getD 0]) := fun h => by
    have := accE_at lo hh e (by rw [← HQ.out, ← HLEN.out] at h; simp at h; omega)
    rw [HQ.out] at this; exact this
  have A3 : Hid (∀ j, q < j → j < len → accE lo hh e (j + 1) = accE lo hh e j ++ [(lo ++ hh)[j]?.getD 0]) := fun j h1 h2 => accE_hi lo hh e j (by rw [HQ.out]; exact h1) (by rw [HLEN.out]; exact h2)
  have A4 : Hid ((if len ≤ q then accE lo hh e len ++ [e] else accE lo hh e len) = lo ++ e :: hh) := by
    have := accE_end lo hh e
    rw [HLEN.out, HQ.out] at this; exact this
  have A5 : Hid (∀ j, (accE lo hh e j).length ≤ j + 1) := fun j => accE_len lo hh e j
  have A0 : Hid (accE lo hh e 0 = []) := by show accE lo hh e 0 = []; unfold accE; simp
  rw [HLEN.out] at c29 hnc hXl HC HHI
  rw [HQ.out] at HLO HHI
  unfold maxLen at hcm
  generalize accE lo hh e = acc at *
  generalize lo ++ hh = X at *
  generalize lo ++ e :: hh = F at *
  go_enter Tryz.func105, Tryz.ntmps105
  go_wp2
  go_loopw [4, 5, 6] (fun v d i wr => ∃ (j : Nat) (b : Bool), i = .int .i64 j ∧ d = .bool b ∧ j ≤ len ∧ Hid (b = decide (q < j)) ∧ wr.ownsRow w.heap.size 3 1 v (acc j).length (ints (acc j)) ∧ Below w.heap.size w wr)
    (fun _ _ i _ => len - (intOf i).toNat)
  case atStart => exact ⟨0, false, rfl, rfl, by omega, by show false = decide (q < 0); simp, by rw [A0.out]; exact World.ownsRow_nil _ _ _ _, Below.refl _ _⟩
  case round =>
    obtain ⟨j, b, rfl, rfl, hj, HB, hown, hb⟩ := hrel
    have c29r := (hb.cell (p := ⟨bb, 29, none⟩) hbl).trans c29
    have f29r := (hb.frozen (p := ⟨bb, 29, none⟩) hbl).trans f29
    have hal := A5.out j
    by_cases hlt : j < len
    · obtain ⟨g, hao, hgl, cj0⟩ := HC.out j hlt
      subst hao
      have cj := (hb.cell (p := ⟨g, j, none⟩) hgl).trans cj0
      clear cj0
      rcases Nat.lt_trichotomy j q with hq | hq | hq
      · have hbf : b = false := by rw [HB.out]; simp; omega
        subst hbf
        have hlx := HLO.out j hq
        have HT : Hid (acc (j + 1) = acc j ++ [X[j]?.getD 0]) := A1.out j hq
        have HB2 : Hid (false = decide (q < j + 1)) := by show false = decide (q < j + 1); simp; omega
        generalize X[j]?.getD 0 = x at *
        have hx : ((x : Int) == (e : Int)) = false := by rw [beq_eq_false_iff_ne]; omega
        clear HB
        go_wp2_with (at_builtin; refine wpList_append_own _ rfl _ _ 32 rfl w.heap.size 3 i0 (.int .i64 0) 1 8 Tryz.undInts hi hz0 hz1 hz2 rfl (by decide) _ _ _ rfl (hown.alloc _) ⟨wr.heap.size, 0, none⟩ 1 1 [.int .i64 x] rfl rfl ?c1 ?c2 ?c3 ?c4 ?c5 ?_)
        case c1 =>
          intro i u hj
          match i, hj with
          | 0, hj => simp at hj; subst hj; simp [Addr.add]
        case c2 => intro u hu; simp at hu; subst hu; rfl
        case c3 => unfold maxLen; omega
        case c4 => omega
        case c5 => have := hb.size; simp; omega
        · intro v' w1 hown' hgrow _
          have hb1 := below_app hown hgrow hb hb.size
          have ho1 : w1.ownsRow w.heap.size 3 1 v' (acc (j + 1)).length (ints (acc (j + 1))) := by rw [HT.out]; simpa [ints] using hown'
          clear hown' hgrow hown hb
          go_wp2
          go_roundw
          case rel => exact ⟨j + 1, false, by go_num, rfl, by omega, HB2, ho1, hb1⟩
          case measure => simp [intOf]; omega
      · subst hq
        have hbf : b = false := by rw [HB.out]; simp
        subst hbf
        have hlx := HHI.out j (Nat.le_refl _) hlt
        have HT : Hid (acc (j + 1) = (acc j ++ [e]) ++ [X[j]?.getD 0]) := A2.out hlt
        have HB2 : Hid (true = decide (j < j + 1)) := by show true = decide (j < j + 1); simp
        generalize X[j]?.getD 0 = x at *
        have hx : ((x : Int) == (e : Int)) = false := by rw [beq_eq_false_iff_ne]; omega
        clear HB
        go_wp2_with (at_builtin; refine wpList_append_own _ rfl (.tmp 41) (.tmp 43) 32 rfl w.heap.size 3 i0 (.int .i64 0) 1 8 Tryz.undInts hi hz0 hz1 hz2 rfl (by decide) _ _ _ rfl (hown.alloc _) ⟨wr.heap.size, 0, none⟩ 1 1 [.int .i64 e] rfl rfl ?d1 ?d2 ?d3 ?d4 ?d5 ?_)
        case d1 =>
          intro i u hj
          match i, hj with
          | 0, hj => simp at hj; subst hj; simp [Addr.add]
        case d2 => intro u hu; simp at hu; subst hu; rfl
        case d3 => unfold maxLen; omega
        case d4 => omega
        case d5 => have := hb.size; simp; omega
        · intro v' w1 hown' hgrow _
          have hb1 := below_app hown hgrow hb hb.size
          have ho1 : w1.ownsRow w.heap.size 3 1 v' ((acc j).length + 1) (ints (acc j) ++ [.int .i64 e]) := by simpa [ints] using hown'
          have c29s := (hb1.cell (p := ⟨bb, 29, none⟩) hbl).trans c29
          have cjs := (hb1.cell (p := ⟨g, j, none⟩) hgl).trans ((hb.cell (p := ⟨g, j, none⟩) hgl).symm.trans cj)
          clear hown' hgrow hown hb cj c29r f29r
          go_wp2_with (at_builtin; refine wpList_append_own _ rfl (.tmp 45) (.tmp 54) 32 rfl w.heap.size 3 i0 (.int .i64 0) 1 8 Tryz.undInts hi hz0 hz1 hz2 rfl (by decide) _ _ _ rfl (ho1.alloc _) ⟨w1.heap.size, 0, none⟩ 1 1 [.int .i64 x] rfl rfl ?e1 ?e2 ?e3 ?e4 ?e5 ?_)
          case e1 =>
            intro i u hj
            match i, hj with
            | 0, hj => simp at hj; subst hj; simp [Addr.add]
          case e2 => intro u hu; simp at hu; subst hu; rfl
          case e3 => unfold maxLen; omega
          case e4 => omega
          case e5 => have := hb1.size; simp; omega
          · intro v2 w2 hown2 hgrow2 _
            have hb2 := below_app ho1 hgrow2 hb1 hb1.size
            have ho2 : w2.ownsRow w.heap.size 3 1 v2 (acc (j + 1)).length (ints (acc (j + 1))) := by rw [HT.out]; simpa [ints] using hown2
            clear hown2 hgrow2 ho1 hb1 cjs c29s
            go_wp2
            go_roundw
            case rel => exact ⟨j + 1, true, by go_num, rfl, by omega, HB2, ho2, hb2⟩
            case measure => simp [intOf]; omega
      · have hbf : b = true := by rw [HB.out]; simp; omega
        subst hbf
        have hlx := HHI.out j (by omega) hlt
        have HT : Hid (acc (j + 1) = acc j ++ [X[j]?.getD 0]) := A3.out j hq hlt
        have HB2 : Hid (true = decide (q < j + 1)) := by show true = decide (q < j + 1); simp; omega
        generalize X[j]?.getD 0 = x at *
        have hx : ((x : Int) == (e : Int)) = false := by rw [beq_eq_false_iff_ne]; omega
        clear HB
        go_wp2_with (at_builtin; refine wpList_append_own _ rfl _ _ 32 rfl w.heap.size 3 i0 (.int .i64 0) 1 8 Tryz.undInts hi hz0 hz1 hz2 rfl (by decide) _ _ _ rfl (hown.alloc _) ⟨wr.heap.size, 0, none⟩ 1 1 [.int .i64 x] rfl rfl ?f1 ?f2 ?f3 ?f4 ?f5 ?_)
        case f1 =>
          intro i u hj
          match i, hj with
          | 0, hj => simp at hj; subst hj; simp [Addr.add]
        case f2 => intro u hu; simp at hu; subst hu; rfl
        case f3 => unfold maxLen; omega
        case f4 => omega
        case f5 => have := hb.size; simp; omega
        · intro v' w1 hown' hgrow _
          have hb1 := below_app hown hgrow hb hb.size
          have ho1 : w1.ownsRow w.heap.size 3 1 v' (acc (j + 1)).length (ints (acc (j + 1))) := by rw [HT.out]; simpa [ints] using hown'
          clear hown' hgrow hown hb
          go_wp2
          go_roundw
          case rel => exact ⟨j + 1, true, by go_num, rfl, by omega, HB2, ho1, hb1⟩
          case measure => simp [intOf]; omega
    · have hjl : j = len := by omega
      subst hjl
      by_cases hq : j ≤ q
      · have hbf : b = false := by rw [HB.out]; simp; omega
        subst hbf
        have HT : Hid (F = acc j ++ [e]) := by show F = _; rw [← A4.out, if_pos hq]
        clear HB
        go_wp2_with (at_builtin; refine wpList_append_own _ rfl _ _ 32 rfl w.heap.size 3 i0 (.int .i64 0) 1 8 Tryz.undInts hi hz0 hz1 hz2 rfl (by decide) _ _ _ rfl (hown.alloc _) ⟨wr.heap.size, 0, none⟩ 1 1 [.int .i64 e] rfl rfl ?g1 ?g2 ?g3 ?g4 ?g5 ?_)
        case g1 =>
          intro i u hj
          match i, hj with
          | 0, hj => simp at hj; subst hj; simp [Addr.add]
        case g2 => intro u hu; simp at hu; subst hu; rfl
        case g3 => unfold maxLen; omega
        case g4 => omega
        case g5 => have := hb.size; simp; omega
        · intro v' w1 hown' hgrow _
          have hb1 := below_app hown hgrow hb hb.size
          have ho1 : w1.ownsRow w.heap.size 3 1 v' F.length (ints F) := by rw [HT.out]; simpa [ints] using hown'
          have c29s := (hb1.cell (p := ⟨bb, 29, none⟩) hbl).trans c29
          have f29s := (hb1.frozen (p := ⟨bb, 29, none⟩) hbl).trans f29
          have HE := HP.out w1 v' hb1 ho1
          have HEE : Hid (EdgePost s inp n bb bF cF base m k e w (w1.setCell ⟨bb, 29, none⟩ v') (.returned (.tuple #[]))) := HE
          obtain ⟨g', cap', hv', -⟩ := owns_shape ho1
          subst hv'
          clear hown' hgrow hown hb ho1 hb1 HE c29r f29r
          go_wp2
          go_end0
          exact HEE.out
      · have hbf : b = true := by rw [HB.out]; simp; omega
        subst hbf
        have HT : Hid (F = acc j) := by show F = _; rw [← A4.out, if_neg hq]
        have ho1 : wr.ownsRow w.heap.size 3 1 u4 F.length (ints F) := by rw [HT.out]; exact hown
        have HE := HP.out wr u4 hb ho1
        have HEE : Hid (EdgePost s inp n bb bF cF base m k e w (wr.setCell ⟨bb, 29, none⟩ u4) (.returned (.tuple #[]))) := HE
        obtain ⟨g', cap', hv', -⟩ := owns_shape ho1
        subst hv'
        clear hown hb ho1 HE HB
        go_wp2
        go_end0
        exact HEE.out

theorem edge_any (s inp : ByteArray) (n bb bF cF base k e : Nat) (m : Im.St) (L : Nat → Value) (w : World) (hM : Ms s inp n bb bF cF base m k L w) (he : e < 400) :
    Calls Tryz.prog 105 #[.pointer (some ⟨bb, 0, none⟩), .int .i64 e] w fun en w' => EdgePost s inp n bb bF cF base m k e w w' en := by
  cases hE : m.edg e with
  | true => exact edge_old s inp n bb bF cF base k e m L w hM he hE
  | false => exact edge_fresh s inp n bb bF cF base k e m L w hM he hE
end Go.Proofs.YtbmaiioecnmopaaGreatDoor
