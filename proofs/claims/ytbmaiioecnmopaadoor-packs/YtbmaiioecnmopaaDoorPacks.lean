/-
  THE ROW OF 'triagelaw.Packs' PROVED, AND ITS TIED CARD. By the verifier of the loop 'triage'.
-/
import Derived.Test.YtbmaiioecnmopaaDoorJ05
import Derived.Test.YtbmaiioecnmopaaDoorJ36
import Derived.Test.YtbmaiioecnmopaaDoorTie
import Derived.Test.YtbmaiioecnmopaaDoorCards
import Derived.SevenTiedAt
namespace Go.Proofs.YtbmaiioecnmopaaDoor
open Go.ChangeShapes Go.WideShapes Go.ChangeAt Go.RowKit
open Go.ChangeMaps (open_string shut_string)

theorem Tryd.laidOutB : laidOutB Tryd.prog = true := by kernel_rfl
theorem Tryd.bytesSt : Tryd.prog.bytesOf 39 = 16 := by kernel_rfl
theorem Tryd.bytesIn : Tryd.prog.bytesOf 3 = 8 := by kernel_rfl
theorem sized_sites {H : Type} {y0 y1 y2 y3 y4 y5 y6 : DataW H} {ts : List TypeId} {ds : List (DataW H)} (h : (DataW.weightsEach Tryd.prog (71 :: ts) (.agg [y0, y1, y2, y3, y4, y5, y6] :: ds)).all (· ≤ reachBytes) = true) : lenD y5 ≤ 8796093022000 := by
  cases y5 with
  | slice el sp =>
    have := List.all_eq_true.1 h _ (DataW.weights_mem_each (j := 0) (t := 71) rfl rfl ((el.length + sp.length) * Tryd.prog.bytesOf 39) (by simp [DataW.weights, DataW.weightsEach, Tryd.underlying71]))
    rw [Tryd.bytesSt] at this
    have h2 : (el.length + sp.length) * 16 ≤ reachBytes := by simpa using this
    unfold reachBytes at h2
    show el.length ≤ _
    omega
  | _ => exact Nat.zero_le _
theorem sized_edges {H : Type} {y0 y1 y2 y3 y4 y5 y6 : DataW H} {ts : List TypeId} {ds : List (DataW H)} (h : (DataW.weightsEach Tryd.prog (71 :: ts) (.agg [y0, y1, y2, y3, y4, y5, y6] :: ds)).all (· ≤ reachBytes) = true) : lenD y6 ≤ 17592186043904 := by
  cases y6 with
  | slice el sp =>
    have := List.all_eq_true.1 h _ (DataW.weights_mem_each (j := 0) (t := 71) rfl rfl ((el.length + sp.length) * Tryd.prog.bytesOf 3) (by simp [DataW.weights, DataW.weightsEach, Tryd.underlying71]))
    rw [Tryd.bytesIn] at this
    have h2 : (el.length + sp.length) * 8 ≤ reachBytes := by simpa using this
    unfold reachBytes at h2
    show el.length ≤ _
    omega
  | _ => exact Nat.zero_le _

set_option maxRecDepth 100000 in
theorem packs_lifted (os : Os) (started : os.Started) (H : Type) (enc : TypeId × Value → H) :
    ReturnsInHanded {} Tryd.checked os 8 .any (fun w args => (Rows.packsSpec.pre enc Tryd.prog Tryd.f8 [] false w args ∧ laidMetH Tryd.prog laid3 w) ∧ sizedMet enc Tryd.prog Tryd.f8 (OpenSpec.ofChange Rows.packsSpec) false w args)
      (Rows.packsSpec.post enc Tryd.prog Tryd.f8 false true false false) := by
  refine returnsInHanded_of_change_and (C := Tryd.checked) (X := fun w _ => laidMetH Tryd.prog laid3 w) (fun _ _ _ hh h => h.of_heap hh) Tryd.own started (by kernel_rfl) Tryd.func8
    (ChangeSpec.witness_shaped (enc := enc) (C := Tryd.checked) (os := os) (X := fun w _ => laidMetH Tryd.prog laid3 w) false (World.doorLaid Tryd.prog 400 os) #[.agg #[.string ByteArray.empty, .int .i64 0, .int .i64 0, .string ByteArray.empty, .int .i64 0, .slice none 0 0, .slice none 0 0]] 8 rfl (World.shaped_of_RefB (by kernel_rfl) (by kernel_rfl)) (by kernel_rfl) (by kernel_rfl) (by kernel_rfl) (door_met os _)) ?_
  intro W base args ds gs before hval0 hW _ hR hL _
  have hval : ∀ (j : Nat) t v, Tryd.f8.params[j]? = some t → args[j]? = some v → Value.okWide Tryd.prog W .any base t v := hval0
  have hW' := hW
  obtain ⟨p, q, hA0, hV, rfl, hfz, hnd⟩ := hW
  have hA : DataW.TrodAll enc Tryd.prog W 0 (fun _ => true) true Tryd.f8.params.toList args.toList ds p := hA0
  rw [Tryd.params8] at hA hval
  obtain ⟨v0, d0, rfl, rfl, h0⟩ := trodAll_one hA
  obtain ⟨rfl, rfl⟩ := trodVars_none hV
  have hlt : ∀ x ∈ p, x.block < W.heap.size := fun x hx => by simpa using hW'.lt x (by simpa using hx)
  obtain ⟨im, inp, fu, de, kd, sv, ev, sts, eds, y0, y1, y2, y3, y4, y5, y6, rfl, hm, hS, hE, rfl, hl5, hl6⟩ := bun_of_trod (hval 0 71 v0 rfl rfl) h0 hlt
  have e1 : Rows.packsSpec.fn H ([.agg [y0, y1, y2, y3, y4, y5, y6]] ++ []) = { results := [.lit (.bool true)], args := [.agg [y0, y1, y2, y3, y4, y5, y6]] } := by simp [Rows.packsSpec]
  have hb1 := sized_sites hR
  have hb2 := sized_edges hR
  rw [hl5] at hb1
  rw [hl6] at hb2
  refine (packs_walk im inp fu de kd sv ev sts eds W (glob_of_laid hL) hm hb1 hb2 hS hE).mono fun e W' ⟨he, hb⟩ => ?_
  subst he
  refine ⟨_, rfl, _, _, _, [], p, [], hW', ?_, ?_, ?_, hb.frame _, fun h => by cases h⟩
  · rw [e1]; exact trodAll_mk1 (shut_bool Tryd.underlying4 true)
  · rw [e1]; exact trodAll_mk1 (Below.trod Tryd.laidOutB (by kernel_rfl) (of_decide_eq_true (by kernel_rfl)) h0 hb hlt)
  · rw [e1]; rfl

theorem packs_holds : Rows.PacksSaid :=
  OpenClaim.holds_of_wide 8 Tryd.f8 rfl rfl rfl rfl rfl rfl rfl ⟨rfl, rfl, rfl, rfl, rfl⟩ rfl rfl rfl rfl rfl (by kernel_rfl) Tryd.func8 (by kernel_rfl)
    (of_decide_eq_true (by kernel_rfl)) (by unfold Func.isWrapper; rw [if_neg (of_decide_eq_false (by kernel_rfl))]; exact ⟨rfl, rfl⟩)
    (fun os started H enc _ => packs_lifted os started H enc)

theorem packs_card : Rows.PacksCardSaid :=
  Claim7.holds_tied_plain_at .later [] [.handle, .sentinel, .data] true Rows.packsCard.stood.harness true
    packs_holds (fun _ h => by cases h) (by kernel_rfl) (fun _ h => by cases h) packs_row_tie rfl ⟨rfl, rfl⟩ (by kernel_rfl) rfl
    (fun f fn hf hfn => by
      obtain rfl : f = 8 := Option.some.inj ((show Tryd.prog.funcNamed "triage/triagelaw.Packs" = some 8 by kernel_rfl).symm.trans hf) |>.symm
      obtain rfl : fn = Tryd.f8 := (Option.some.inj (Tryd.func8.symm.trans hfn)).symm
      exact ⟨by kernel_rfl, fun j t ht => by
        rw [Tryd.params8] at ht
        have hm : t ∈ [71] := by simpa using Array.mem_of_getElem? ht
        have hall : ([71].all fun u => !Tryd.prog.wantsStandIn u) = true := by kernel_rfl
        exact (show Tryd.prog.wantsStandIn t = false by simpa using List.all_eq_true.1 hall t hm)⟩)
    (by kernel_rfl)
end Go.Proofs.YtbmaiioecnmopaaDoor
