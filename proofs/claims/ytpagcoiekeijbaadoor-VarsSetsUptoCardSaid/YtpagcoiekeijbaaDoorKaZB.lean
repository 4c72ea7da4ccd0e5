/-
  PROVED: what is set is there; other variables stay; what is unset is there no more (the law VarsSets answers true, and leaves its arguments as they were).
  Conditions: the table that it reads lies at the start as the program's text lays it (the card ties this).
  Condition of the second form: what is read is of bulk at most 1048576.
-/
import Derived.Test.YtpagcoiekeijbaaDoorKa30
import Derived.Test.YtpagcoiekeijbaaDoorKa31
namespace Go.Proofs.YtpagcoiekeijbaaDoor
section
open Go.ChangeShapes Go.WideShapes Go.ChangeAt Go.RowKit Tx
namespace Va
set_option maxRecDepth 100000 in
theorem vsets_contract (H : Type) (enc : TypeId × Value → H) (W : World) (base : Nat) (args : Array Value) (ds gs : List (DataW H)) (before : List MemPlace)
   (hval : ∀ (j : Nat) t v, Tryd.f4.params[j]? = some t → args[j]? = some v → Value.okWide Tryd.prog W .any base t v)
   (hW : DataW.Whole enc Tryd.prog Tryd.f4.params.toList Rows.varsSetsSpec.vars false W args.toList ds gs before)
   (hsz : (DataW.weightsEach Tryd.prog (Tryd.f4.params.toList ++ (OpenSpec.ofChange Rows.varsSetsSpec).bare.plain.varTypes Tryd.prog) (ds ++ gs)).all (· ≤ reachBytes) = true)
   (hk : Rows.uptoSmall H (ds ++ gs) = true) (hL : laidMetH Tryd.prog Rows.varsSetsRow.laid W) (hsh : W.ShapedOpen Tryd.prog) :
   Calls Tryd.prog 4 args W fun e W' => ∃ v, e = .returned v ∧ Rows.varsSetsSpec.post enc Tryd.prog Tryd.f4 false true false false W args v W' := by
 have hW' := hW
 obtain ⟨p, q, hA0, hV, rfl, hfz, hnd⟩ := hW
 obtain ⟨rfl, rfl⟩ := trodVars_none hV
 have hA : DataW.TrodAll enc Tryd.prog W 0 (fun _ => true) true Tryd.f4.params.toList args.toList ds p := hA0
 rw [Tryd.params4] at hA hval hsz
 obtain ⟨v0, vs0, d0, ds0, p0, q0, hargs, rfl, rfl, h0, r0⟩ := trodAll_cons hA
 obtain ⟨v1, vs1, d1, ds1, p1, q1, rfl, rfl, rfl, h1, r1⟩ := trodAll_cons r0
 obtain ⟨v2, vs2, d2, ds2, p2, q2, rfl, rfl, rfl, h2, r2⟩ := trodAll_cons r1
 obtain ⟨rfl, rfl, rfl⟩ := trodAll_nil r2
 obtain rfl : args = #[v0, v1, v2] := by cases args; simp_all
 obtain ⟨A, An, Ac, rfl, Ah, Al⟩ := open_acts hsz (j := 0) rfl rfl (hval 0 22 v0 rfl rfl) h0
 obtain ⟨d, rfl, okd, bkd⟩ := open_act hsz (j := 1) rfl rfl (hval 1 26 v1 rfl rfl) h1
 obtain ⟨n, rfl, rfl, rfl, hn⟩ := open_int Tryd.underlying5 (hval 2 5 v2 rfl rfl) h2
 obtain ⟨n0, n1⟩ := wf_u8 hn
 obtain ⟨n, rfl⟩ := Int.eq_ofNat_of_zero_le n0
 have hbk : Rows.uptoBulk d1 ≤ 1048576 := by
   have h := of_decide_eq_true hk
   simp only [List.cons_append, List.nil_append, Rows.uptoBulkAll] at h
   omega
 refine (sets_any A An Ac d n W (kit_of hL hsh) Ah (by omega) okd (by omega)).mono fun e W' ⟨he, hb⟩ => ?_
 subst he
 exact ⟨_, rfl, Law.post laidOut (by kernel_rfl) (by kernel_rfl) Tryd.underlying4 rfl rfl hW' hb⟩
theorem vsets_laid_met (os : Os) : laidMet Tryd.prog Rows.varsSetsRow.laid ((laidWorld os).forCall (fun _ _ => 0) ⟨#[], #[Value.slice none 0 0, Value.agg #[.int .u8 0, .int .u8 0, .string ⟨#[]⟩, .string ⟨#[]⟩, .bool false, .bool false], Value.int .u8 0], []⟩).memory :=
 laid_met os _
theorem vsets_reads (os : Os) {H : Type} (enc : TypeId × Value → H) : ∃ places, DataW.whole enc Tryd.prog ((laidWorld os).forCall (fun _ _ => 0) ⟨#[], #[Value.slice none 0 0, Value.agg #[.int .u8 0, .int .u8 0, .string ⟨#[]⟩, .string ⟨#[]⟩, .bool false, .bool false], Value.int .u8 0], []⟩).memory Tryd.f4.params.toList Rows.varsSetsSpec.vars false #[Value.slice none 0 0, Value.agg #[.int .u8 0, .int .u8 0, .string ⟨#[]⟩, .string ⟨#[]⟩, .bool false, .bool false], Value.int .u8 0].toList 8 = some ([.nil, .agg [.lit (.int .u8 0), .lit (.int .u8 0), .lit (.string []), .lit (.string []), .lit (.bool false), .lit (.bool false)], .lit (.int .u8 0)], [], places) :=
 ⟨[], by kernel_rfl⟩
set_option maxRecDepth 100000 in
theorem vsets_lifted (os : Os) (started : os.Started) (H : Type) (enc : TypeId × Value → H) (F : Stop.Interp) :
   ReturnsInHanded {} Tryd.checked os 4 .any ((Rows.OpenSpec.upto Rows.varsSetsSpec).preRow enc Tryd.prog Tryd.f4 Rows.varsSetsUptoRow.domain false Rows.varsSetsUptoRow.laid)
     (((Rows.OpenSpec.upto Rows.varsSetsSpec).at F).post enc Tryd.prog Tryd.f4 false true false false) := by
 obtain ⟨places, hx⟩ := vsets_reads os enc
 refine returnsInHanded_of_row (C := Tryd.checked) (s := Rows.OpenSpec.upto Rows.varsSetsSpec) own started (by kernel_rfl) Tryd.func4
   (witness_row_at (enc := enc) (C := Tryd.checked) false (laidWorld os) #[Value.slice none 0 0, Value.agg #[.int .u8 0, .int .u8 0, .string ⟨#[]⟩, .string ⟨#[]⟩, .bool false, .bool false], Value.int .u8 0] rfl (by kernel_rfl) (by kernel_rfl) (by kernel_rfl)
     (OpenSpec.preRow_of_cond 8 hx (by kernel_rfl) (fun k hk => by cases hk; kernel_rfl) (by kernel_rfl) (vsets_laid_met os))) ?_
 intro W base args ds gs before hval hW _ hc hsz hL hsh _
 exact vsets_contract H enc W base args ds gs before hval hW hsz (hc _ rfl) hL hsh
theorem vsets_said : Rows.VarsSetsUptoSaid :=
 OpenClaim.holds_of_cond 4 Tryd.f4 rfl rfl rfl rfl rfl rfl rfl ⟨rfl, rfl, rfl, rfl, rfl⟩ rfl rfl rfl rfl rfl (by kernel_rfl) Tryd.func4 (by kernel_rfl)
   (of_decide_eq_true (by kernel_rfl)) (by unfold Func.isWrapper; first | (rw [if_pos (by decide +kernel)]; kernel_rfl) | (rw [if_neg (by decide +kernel)]; exact ⟨rfl, rfl⟩))
   (fun os started H enc _ F => by rw [OpenClaim.pre_eq_preRow]; exact vsets_lifted os started H enc F)
theorem vsets_plain (f : FuncId) (fn : Func) (hf : Tryd.pinned.checked.prog.funcNamed "scullion/scullionlaw12.VarsSets" = some f) (hfn : Tryd.pinned.checked.prog.funcs[f]? = some fn) :
   false = Tryd.pinned.checked.prog.looks [] ∧ ∀ (j : Nat) t, fn.params[j]? = some t → Tryd.pinned.checked.prog.wantsStandIn t = false := by
 obtain rfl : f = 4 := Option.some.inj ((show Tryd.prog.funcNamed "scullion/scullionlaw12.VarsSets" = some 4 by kernel_rfl).symm.trans hf) |>.symm
 obtain rfl : fn = Tryd.f4 := (Option.some.inj (Tryd.func4.symm.trans hfn)).symm
 refine ⟨by kernel_rfl, fun j t ht => ?_⟩
 rw [Tryd.params4] at ht
 have hm := Array.mem_of_getElem? ht
 simp at hm
 rcases hm with rfl | rfl | rfl
 · exact (show Tryd.prog.wantsStandIn 22 = false by kernel_rfl)
 · exact (show Tryd.prog.wantsStandIn 26 = false by kernel_rfl)
 · exact (show Tryd.prog.wantsStandIn 5 = false by kernel_rfl)
theorem vsets_card : Rows.VarsSetsUptoCardSaid :=
 Claim7.holds_tied_plain_at .later [] _ _ _ _ vsets_said (fun _ h => by cases h) (by kernel_rfl) (fun _ h => by cases h) varsSetsUpto_row_tie rfl ⟨rfl, rfl⟩ (by kernel_rfl) rfl vsets_plain (by kernel_rfl)
end Va
end
end Go.Proofs.YtpagcoiekeijbaaDoor
