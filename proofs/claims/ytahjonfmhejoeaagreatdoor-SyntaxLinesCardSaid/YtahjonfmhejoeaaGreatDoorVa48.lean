/-
  Parts of the proof, merged.
-/
import Derived.Carry
import Derived.ChangeMaps5
import Derived.ChangeOld
import Derived.ChangeSame
import Derived.ChangeShapes
import Derived.Deep.DeepHandedRow
import Derived.LaidLaws
import Derived.Lib.LaidTab
import Derived.OpenShut
import Derived.ProofKit
import Derived.SizedLaws
import Derived.SliceStrings
import Derived.Stop.LaidErr
import Derived.Test.YtahjonfmhejoeaaGreatDoorCards
import Derived.Test.YtahjonfmhejoeaaGreatDoorTie
import Derived.Test.YtahjonfmhejoeaaGreatDoorVa47
namespace Go.Proofs.YtahjonfmhejoeaaGreatDoor
section
open Go.RowKit Go.ChangeShapes
namespace Law
variable {H : Type} {enc : TypeId × Value → H} {P : Program}
def typesOk (P : Program) (ts : List TypeId) : Bool := ts.all fun t => P.readableRec t && decide (t < P.types.size)
theorem all_stay (hl : laidOutB P = true) {W W' : World} {sp : Nat → Bool} : ∀ {ts : List TypeId} {vs : List Value} {ds : List (DataW H)} {ps : List MemPlace}, typesOk P ts = true →
   DataW.TrodAll enc P W 0 (fun _ => true) true ts vs ds ps → (∀ p ∈ ps, W.sameAt W' p) → (∀ p ∈ ps, sp p.block = true) → DataW.TrodAll enc P W' 0 sp true ts vs ds ps
 | [], [], [], _, _, h, _, _ => h
 | t :: ts, v :: vs, d :: ds, ps, hr, h, hs, hsp => by
   obtain ⟨p, q, h1, h2, rfl⟩ := h
   simp only [typesOk, List.all_cons, Bool.and_eq_true, decide_eq_true_eq] at hr
   exact ⟨p, q, WideElems.Trod_stays hl hr.1.1 hr.1.2 h1 (fun x hx => hs x (List.mem_append_left _ hx)) (fun x hx => hsp x (List.mem_append_left _ hx)),
     all_stay hl hr.2 h2 (fun x hx => hs x (List.mem_append_right _ hx)) (fun x hx => hsp x (List.mem_append_right _ hx)), rfl⟩
theorem true_trod {W : World} {b : Nat} {sp : Nat → Bool} {hd : Bool} {B : TypeId} (hB : P.underlying B = some .bool) : DataW.Trod enc P W b sp hd B (.bool true) (.lit (.bool true)) [] :=
 ⟨1, by simp [DataW.trod, Value.cells, hB]⟩
theorem post {f : Func} {s : ChangeSpec} {apart fresh handsOn again : Bool} {W W' : World} {args : Array Value} {ds : List (DataW H)} {before : List MemPlace} {B : TypeId}
   (hl : laidOutB P = true) (hts : typesOk P f.params.toList = true) (hrt : f.resultTypes = #[B]) (hB : P.underlying B = some .bool) (hvars : s.vars = [])
   (hfn : s.fn H (ds ++ []) = { results := [.lit (.bool true)], args := ds }) (hW : DataW.Whole enc P f.params.toList s.vars apart W args.toList ds [] before) (hb : Below W.heap.size W W') :
   s.post enc P f apart fresh handsOn again W args (.bool true) W' := by
 have hlt : ∀ p ∈ before, p.block < W.heap.size := fun p hp => hW.lt p hp
 obtain ⟨p, q, hA, hV, hpq, hz, hn⟩ := id hW
 have hV' := hV
 rw [hvars] at hV'
 obtain ⟨-, rfl⟩ := trodVars_none hV'
 rw [List.append_nil] at hpq
 subst hpq
 have stays : ∀ sp : Nat → Bool, (∀ x ∈ before, sp x.block = true) → DataW.TrodAll enc P W' 0 sp true f.params.toList args.toList ds before :=
   fun sp hsp => all_stay hl hts hA (fun x hx => hb.same (hlt x hx)) hsp
 have res : ∀ (b : Nat) (sp : Nat → Bool) (hd : Bool), DataW.TrodAll enc P W' b sp hd f.resultTypes.toList ((Value.bool true).resultList f.resultTypes.size) [.lit (.bool true)] [] := by
   intro b sp hd
   rw [hrt]
   exact ⟨[], [], true_trod hB, rfl, rfl⟩
 have noVars : ∀ sp : Nat → Bool, DataW.TrodVars enc P W' sp s.vars ([] : List (DataW H)) [] := fun sp => by rw [hvars]; rfl
 refine ⟨ds, [], before, [], before, [], hW, by rw [hfn]; exact res _ _ _, by rw [hfn]; exact stays _ (fun x hx => decide_eq_true (hlt x hx)), by rw [hfn]; exact noVars _, ?_, fun _ => ⟨ok_one hrt rfl (okWide_bool_mk hB true), ?_⟩⟩
 · exact World.keptBut_mono (fun x hx => ⟨hx, .inr (.inl hx)⟩) (hb.frame (· ∈ before))
 · refine ⟨_, _, [] ++ before ++ [], ⟨[] ++ before, [], trodAll_append (stays _ (fun _ _ => rfl)) (res _ _ _), noVars _, rfl, ?_, ?_⟩, ?_⟩
   · intro b off hp
     have hin : MemPlace.cell b off ∈ before := by simpa using hp
     rw [hb.frozen (p := ⟨b, off, none⟩) (hlt _ hin)]
     exact hz b off hin
   · intro ha
     simpa using hn ha
   · intro x hx _
     simpa using hx
end Law
end
section
open Go.ChangeShapes Go.WideShapes Go.ChangeAt Go.RowKit Tx
namespace Sy
open Pc (By8)
theorem own : ownKnob Tryz.prog.godebug = none := by kernel_rfl
theorem laidOut : laidOutB Tryz.prog = true := by kernel_rfl
theorem gOpsL : Tryz.prog.globalNamed "scullion/lexer.operators" = some 0 := by kernel_rfl
theorem gOpsLType : (Tryz.prog.globals[0]?).map (·.type) = some 131 := by kernel_rfl
theorem cellsOpsL : Tryz.prog.cellsOf 131 = 11 := by kernel_rfl
theorem gOpsW : Tryz.prog.globalNamed "scullion/word.operators" = some 4 := by kernel_rfl
theorem gOpsWType : (Tryz.prog.globals[4]?).map (·.type) = some 211 := by kernel_rfl
theorem cellsOpsW : Tryz.prog.cellsOf 211 = 12 := by kernel_rfl
theorem cellsStr : Tryz.prog.cellsOf 9 = 1 := by kernel_rfl
theorem cellsByte : Tryz.prog.cellsOf 5 = 1 := by kernel_rfl
def laid : List (String × DataW Unit) := [("scullion/lexer.operators", Rows.laid_scullion_lexer_operators), ("scullion/word.operators", Rows.laid_scullion_word_operators)]
theorem cells_of_strs {H : Type} {enc : TypeId × Value → H} {P : Program} {w : World} {base : Nat} {sp : Nat → Bool} {held : Bool} {fuel : Nat} {t e : TypeId} {n : Nat} {cs : List Value} {ls : List (List UInt8)} {p : List MemPlace}
   (ht : P.underlying t = some (.array n e)) (he : P.underlying e = some .string) (hce : P.cellsOf e = 1) (hct : P.cellsOf t = n)
   (h : DataW.trod enc P w base sp held fuel t cs = some (.agg (ls.map fun l => .lit (.string l)), p)) : cs = ls.map fun l => Value.string (bs l) := by
 cases fuel with
 | zero => simp [DataW.trod] at h
 | succ fuel =>
   simp only [DataW.trod, ht, hce, hct, Nat.mul_one] at h
   split at h
   · rename_i hl
     obtain ⟨xs, hm, hx⟩ := Option.map_eq_some_iff.1 h
     have hxs : xs.map (·.1) = ls.map fun l => (DataW.lit (.string l) : DataW H) := by
       have := congrArg Prod.fst hx
       simpa using this
     have hxl : xs.length = n := by simpa using Lib.mapM_length hm
     have hzl : ls.length = n := by
       have := congrArg List.length hxs
       simp at this
       omega
     apply List.ext_getElem?
     intro i
     by_cases hi : i < n
     · obtain ⟨b, hb, hf⟩ := Lib.mapM_at hm i i (by simp [hi])
       obtain ⟨z, hc, rfl, _⟩ := DataW.trod_string he hf
       have h1 : cs[i]? = some (.string z) := by
         have := congrArg (·[0]?) hc
         simpa [List.getElem?_take, List.getElem?_drop] using this
       have h2 : (xs.map (·.1))[i]? = some (DataW.lit (.string z.data.toList) : DataW H) := by simp [hb]
       rw [hxs] at h2
       simp only [List.getElem?_map, Option.map_eq_some_iff, DataW.lit.injEq, Lit.string.injEq] at h2
       obtain ⟨l, hl2, e2⟩ := h2
       have e3 : bs l = z := by rw [e2]; exact bs_toL z
       simp [h1, hl2, e3]
     · rw [List.getElem?_eq_none (by omega), List.getElem?_eq_none (by simp; omega)]
   · cases h
theorem var_block {P : Program} {w : World} {n : String} {cs : Array Value} {g : Nat} (hg : P.globalNamed n = some g) (h : w.var? P n = some cs) : ∃ t fr, w.heap[g]? = some (.cells cs t fr) := by
 unfold World.var? at h
 rw [hg] at h
 simp only [Option.bind_some] at h
 split at h
 · rename_i cs' t fr hx
   obtain rfl := Option.some.inj h
   exact ⟨t, fr, hx⟩
 · cases h
theorem kit_l {W : World} {r : List (String × DataW Unit)} (h1 : laidMet Tryz.prog (("scullion/lexer.operators", Rows.laid_scullion_lexer_operators) :: r) W) (hsh : W.ShapedOpen Tryz.prog) : Lx.Kit W := by
 refine ⟨Tryz.laysM145.s1_3 W hsh, ?_⟩
 obtain ⟨ps, ⟨g', t', cs, fuel, p, q, hg', ht', hvar, hd, _, _⟩, _⟩ := h1
 obtain rfl := Option.some.inj (gOpsL.symm.trans hg')
 obtain rfl := Option.some.inj (gOpsLType.symm.trans ht')
 have hc := cells_of_strs (ls := Lx.opers) Tryz.underlying131 Tryz.underlying9 cellsStr cellsOpsL hd
 have hcs : cs = Lx.opVals := Array.ext' (by rw [hc]; rfl)
 obtain ⟨t, fr, hb⟩ := var_block gOpsL hvar
 exact ⟨t, fr, by rw [← hcs]; exact hb⟩
theorem kit_w {W : World} {r : List (String × DataW Unit)} (h1 : laidMet Tryz.prog (("scullion/word.operators", Rows.laid_scullion_word_operators) :: r) W) (hsh : W.ShapedOpen Tryz.prog) : Wx.Kit W := by
 refine ⟨Tryz.laysM145.s1_3 W hsh, ?_⟩
 obtain ⟨ps, ⟨g', t', cs, fuel, p, q, hg', ht', hvar, hd, _, _⟩, _⟩ := h1
 obtain rfl := Option.some.inj (gOpsW.symm.trans hg')
 obtain rfl := Option.some.inj (gOpsWType.symm.trans ht')
 have hc := cells_of_strs (ls := Wx.wops) Tryz.underlying211 Tryz.underlying9 cellsStr cellsOpsW hd
 have hcs : cs = Wx.opVals := Array.ext' (by rw [hc]; rfl)
 obtain ⟨t, fr, hb⟩ := var_block gOpsW hvar
 exact ⟨t, fr, by rw [← hcs]; exact hb⟩
theorem kit_of {W : World} (h : laidMetH Tryz.prog laid W) (hsh : W.ShapedOpen Tryz.prog) : KS W := ⟨kit_l (show laidMet Tryz.prog laid W from h) hsh, kit_w (laidMet.tail (show laidMet Tryz.prog laid W from h)) hsh⟩
set_option maxRecDepth 100000 in
theorem open_bytes {H : Type} {enc : TypeId × Value → H} {W : World} {base : Nat} {v : Value} {d : DataW H} {p : List MemPlace}
   (hv : Value.okWide Tryz.prog W .any base 22 v) (h : DataW.Trod enc Tryz.prog W 0 (fun _ => true) true 22 v d p) :
   ∃ A n k, v = .slice A n k ∧ By8 W A n ∧ n ≤ 9223372036854775807 := by
 obtain ⟨a0, len, cap, rfl⟩ := okWide_slice Tryz.underlying22 hv
 obtain ⟨fuel, hf⟩ := h
 rcases open_ints Tryz.underlying22 Tryz.underlying5 cellsByte hf with ⟨hcs, hx⟩ | ⟨a, len', cap', zs, hcs, _, hl, hm, hz, hx, hcell, hwz⟩
 · simp [Value.cells] at hcs
   obtain ⟨rfl, rfl, rfl⟩ := hcs
   exact ⟨none, 0, 0, rfl, fun j hj => by omega, by omega⟩
 · simp [Value.cells] at hcs
   obtain ⟨rfl, rfl, rfl⟩ := hcs
   simp only [if_true] at hz
   unfold maxLen at hm
   refine ⟨some a, len, cap, rfl, fun j hj => ?_, by omega⟩
   have hc := hcell j (by omega)
   obtain ⟨b, off, spot⟩ := a
   have hspot : spot = none := by
     have h0 := hcell 0 (by omega)
     simpa [Addr.add] using World.cell?_spot h0
   subst hspot
   rw [Addr.add_lit] at hc
   have hw := hwz (zs.getD j 0) (by rw [List.getD_eq_getElem?_getD, List.getElem?_eq_getElem (show j < zs.length by omega)]; exact List.getElem_mem _)
   simp only [Lit.wf, Bool.and_eq_true, decide_eq_true_eq] at hw
   have e0 : IntKind.u8.min = 0 := by decide
   have e1 : IntKind.u8.max = 255 := by decide
   rw [e0, e1] at hw
   exact ⟨b, off, zs.getD j 0, rfl, World.block_lt_of_cell? W _ hc, hc, by omega, by omega⟩
noncomputable def put (h : Array Obj) (g : Nat) (cs : Array Value) : Array Obj := h.modify g fun
 | .cells _ t frozen => .cells cs t frozen
 | o => o
set_option maxRecDepth 100000 in
noncomputable def laidWorld (os : Os) : World :=
 let w0 := World.holding Tryz.prog os ⟨#[], #[], []⟩
 { w0 with heap := put (put w0.heap 0 Lx.opVals) 4 Wx.opVals }
theorem laid_met (os : Os) (args : Array Value) : laidMet Tryz.prog laid ((laidWorld os).forCall (fun _ _ => 0) ⟨#[], args, []⟩).memory :=
 laidMet_of_run' 8 (by kernel_rfl) (by kernel_rfl)
end Sy
end
end Go.Proofs.YtahjonfmhejoeaaGreatDoor
