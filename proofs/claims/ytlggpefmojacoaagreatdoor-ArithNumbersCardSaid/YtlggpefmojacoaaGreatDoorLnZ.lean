/-
 PROVED: what any text alone is worth, and a name with any value, is what the document says (the law ArithNumbers answers true, and leaves its arguments as they were).
  Conditions: the tables that it reads lie at the start as the program's text lays them (the card ties this).
-/
import Derived.Test.YtlggpefmojacoaaGreatDoorCards
import Derived.Test.YtlggpefmojacoaaGreatDoorTie
import Derived.Test.YtlggpefmojacoaaGreatDoorLdB
import Derived.Carry
import Derived.ChangeMaps5
import Derived.ChangeOld
import Derived.ChangeSame
import Derived.ChangeShapes
import Derived.Deep.DeepHandedRow
import Derived.Deep.Slices
import Derived.LaidLaws
import Derived.Lib.LaidTab
import Derived.OpenShut
import Derived.ProofKit
import Derived.SizedLaws
import Derived.SliceStrings
import Derived.Stop.LaidErr
section
namespace Go.Proofs.YtlggpefmojacoaaGreatDoor
open Go.RowKit Go.ChangeShapes
namespace Law
variable {H : Type} {enc : TypeId × Value → H} {P : Program}

def typesOk (P : Program) (ts : List TypeId) : Bool := ts.all fun t => P.readableRec t && decide (t < P.types.size)

theorem all_stay (hl : laidOutB P = true) {W W' : World} {sp : Nat → Bool} : ∀ {ts : List TypeId} {vs : List Value} {ds : List (DataW H)} {ps : List MemPlace}, typesOk P ts = true →
   DataW.TrodAll enc P W 0 (fun _ => true) true ts vs ds ps → (∀ p ∈ ps, W.sameAt W' p) → (∀ p ∈ ps, sp p.block = true) → DataW.TrodAll enc P W' 0 sp true ts vs ds ps
 | [], [], [], _, _, h, _, _ => h
 | t :: ts, v :: vs, d :: ds, ps, hr, h, hs, hsp => by
   obtain ⟨p, q, h1, h2, rfl⟩ := h
   simp only [typesOk, List.all_cons, Bool.and_eq_true, decide_eq_true_eq] at hr
   exact ⟨p, q, WideElems.Trod_stays hl hr.1.1 hr.1.2 h1 (fun x hx => hs x (List.mem_append_left _ hx)) (fun x hx => hsp x (List.mem_append_left _ hx)),
     all_stay hl hr.2 h2 (fun x hx => hs x (List.mem_append_right _ hx)) (fun x hx => hsp x (List.mem_append_right _ hx)), rfl⟩

theorem true_trod {W : World} {b : Nat} {sp : Nat → Bool} {hd : Bool} {B : TypeId} (hB : P.underlying B = some .bool) : DataW.Trod enc P W b sp hd B (.bool true) (.lit (.bool true)) [] :=
 ⟨1, by simp [DataW.trod, Value.cells, hB]⟩

theorem post {f : Func} {s : ChangeSpec} {apart fresh handsOn again : Bool} {W W' : World} {args : Array Value} {ds : List (DataW H)} {before : List MemPlace} {B : TypeId}
   (hl : laidOutB P = true) (hts : typesOk P f.params.toList = true) (hrt : f.resultTypes = #[B]) (hB : P.underlying B = some .bool) (hvars : s.vars = [])
   (hfn : s.fn H (ds ++ []) = { results := [.lit (.bool true)], args := ds }) (hW : DataW.Whole enc P f.params.toList s.vars apart W args.toList ds [] before) (hb : Below W.heap.size W W') :
   s.post enc P f apart fresh handsOn again W args (.bool true) W' := by
 have hlt : ∀ p ∈ before, p.block < W.heap.size := fun p hp => hW.lt p hp
 obtain ⟨p, q, hA, hV, hpq, hz, hn⟩ := id hW
 have hV' := hV
 rw [hvars] at hV'
 obtain ⟨-, rfl⟩ := trodVars_none hV'
 rw [List.append_nil] at hpq
 subst hpq
 have stays : ∀ sp : Nat → Bool, (∀ x ∈ before, sp x.block = true) → DataW.TrodAll enc P W' 0 sp true f.params.toList args.toList ds before :=
   fun sp hsp => all_stay hl hts hA (fun x hx => hb.same (hlt x hx)) hsp
 have res : ∀ (b : Nat) (sp : Nat → Bool) (hd : Bool), DataW.TrodAll enc P W' b sp hd f.resultTypes.toList ((Value.bool true).resultList f.resultTypes.size) [.lit (.bool true)] [] := by
   intro b sp hd
   rw [hrt]
   exact ⟨[], [], true_trod hB, rfl, rfl⟩
 have noVars : ∀ sp : Nat → Bool, DataW.TrodVars enc P W' sp s.vars ([] : List (DataW H)) [] := fun sp => by rw [hvars]; rfl
 refine ⟨ds, [], before, [], before, [], hW, by rw [hfn]; exact res _ _ _, by rw [hfn]; exact stays _ (fun x hx => decide_eq_true (hlt x hx)), by rw [hfn]; exact noVars _, ?_, fun _ => ⟨ok_one hrt rfl (okWide_bool_mk hB true), ?_⟩⟩
 · exact World.keptBut_mono (fun x hx => ⟨hx, .inr (.inl hx)⟩) (hb.frame (· ∈ before))
 · refine ⟨_, _, [] ++ before ++ [], ⟨[] ++ before, [], trodAll_append (stays _ (fun _ _ => rfl)) (res _ _ _), noVars _, rfl, ?_, ?_⟩, ?_⟩
   · intro b off hp
     have hin : MemPlace.cell b off ∈ before := by simpa using hp
     rw [hb.frozen (p := ⟨b, off, none⟩) (hlt _ hin)]
     exact hz b off hin
   · intro ha
     simpa using hn ha
   · intro x hx _
     simpa using hx
end Law
end Go.Proofs.YtlggpefmojacoaaGreatDoor
end
section
namespace Go.Proofs.YtlggpefmojacoaaGreatDoor
open Go.ChangeShapes Go.WideShapes Go.ChangeAt Go.RowKit Tx
namespace Ar
open Wx (Kit opVals wops)

theorem own : ownKnob Tryz.prog.godebug = none := by kernel_rfl
theorem laidOut : laidOutB Tryz.prog = true := by kernel_rfl
theorem gOps : Tryz.prog.globalNamed "scullion/word.operators" = some 8 := by kernel_rfl
theorem gOpsType : (Tryz.prog.globals[8]?).map (·.type) = some 184 := by kernel_rfl
theorem cellsOps : Tryz.prog.cellsOf 184 = 12 := by kernel_rfl
theorem cellsStr : Tryz.prog.cellsOf 9 = 1 := by kernel_rfl
theorem gPow : Tryz.prog.globalNamed "internal/strconv.uint64pow10" = some 1 := by kernel_rfl
theorem gPowType : (Tryz.prog.globals[1]?).map (·.type) = some 152 := by kernel_rfl
theorem cellsPow : Tryz.prog.cellsOf 152 = 20 := by kernel_rfl
theorem cellsU64 : Tryz.prog.cellsOf 116 = 1 := by kernel_rfl
theorem gSyn : Tryz.prog.globalNamed "strconv.ErrSyntax" = some 4 := by kernel_rfl
theorem gSynType : (Tryz.prog.globals[4]?).map (·.type) = some 118 := by kernel_rfl
theorem gRng : Tryz.prog.globalNamed "strconv.ErrRange" = some 5 := by kernel_rfl
theorem gRngType : (Tryz.prog.globals[5]?).map (·.type) = some 118 := by kernel_rfl

def laid : List (String × DataW Unit) := [("math/bits.deBruijn32tab", Rows.laid_math_bits_deBruijn32tab), ("math/bits.deBruijn64tab", Rows.laid_math_bits_deBruijn64tab), ("internal/strconv.uint64pow10", Rows.laid_internal_strconv_uint64pow10), ("unicode/utf8.acceptRanges", Rows.laid_unicode_utf8_acceptRanges), ("strconv.ErrRange", Rows.laid_strconv_ErrRange), ("strconv.ErrSyntax", Rows.laid_strconv_ErrSyntax), ("scullion/word.operators", Rows.laid_scullion_word_operators), ("unicode/utf8.first", Rows.laid_unicode_utf8_first)]
theorem cells_of_strs {H : Type} {enc : TypeId × Value → H} {P : Program} {w : World} {base : Nat} {sp : Nat → Bool} {held : Bool} {fuel : Nat} {t e : TypeId} {n : Nat} {cs : List Value} {ls : List (List UInt8)} {p : List MemPlace}
   (ht : P.underlying t = some (.array n e)) (he : P.underlying e = some .string) (hce : P.cellsOf e = 1) (hct : P.cellsOf t = n)
   (h : DataW.trod enc P w base sp held fuel t cs = some (.agg (ls.map fun l => .lit (.string l)), p)) : cs = ls.map fun l => Value.string (bs l) := by
 cases fuel with
 | zero => simp [DataW.trod] at h
 | succ fuel =>
   simp only [DataW.trod, ht, hce, hct, Nat.mul_one] at h
   split at h
   · rename_i hl
     obtain ⟨xs, hm, hx⟩ := Option.map_eq_some_iff.1 h
     have hxs : xs.map (·.1) = ls.map fun l => (DataW.lit (.string l) : DataW H) := by
       have := congrArg Prod.fst hx
       simpa using this
     have hxl : xs.length = n := by simpa using Lib.mapM_length hm
     have hzl : ls.length = n := by
       have := congrArg List.length hxs
       simp at this
       omega
     apply List.ext_getElem?
     intro i
     by_cases hi : i < n
     · obtain ⟨b, hb, hf⟩ := Lib.mapM_at hm i i (by simp [hi])
       obtain ⟨z, hc, rfl, _⟩ := DataW.trod_string he hf
       have h1 : cs[i]? = some (.string z) := by
         have := congrArg (·[0]?) hc
         simpa [List.getElem?_take, List.getElem?_drop] using this
       have h2 : (xs.map (·.1))[i]? = some (DataW.lit (.string z.data.toList) : DataW H) := by simp [hb]
       rw [hxs] at h2
       simp only [List.getElem?_map, Option.map_eq_some_iff, DataW.lit.injEq, Lit.string.injEq] at h2
       obtain ⟨l, hl2, e2⟩ := h2
       have e3 : bs l = z := by rw [e2]; exact bs_toL z
       simp [h1, hl2, e3]
     · rw [List.getElem?_eq_none (by omega), List.getElem?_eq_none (by simp; omega)]
   · cases h
theorem var_block {P : Program} {w : World} {n : String} {cs : Array Value} {g : Nat} (hg : P.globalNamed n = some g) (h : w.var? P n = some cs) : ∃ t fr, w.heap[g]? = some (.cells cs t fr) := by
 unfold World.var? at h
 rw [hg] at h
 simp only [Option.bind_some] at h
 split at h
 · rename_i cs' t fr hx
   obtain rfl := Option.some.inj h
   exact ⟨t, fr, hx⟩
 · cases h
theorem kit_head {W : World} {r : List (String × DataW Unit)} (h1 : laidMet Tryz.prog (("scullion/word.operators", Rows.laid_scullion_word_operators) :: r) W) (hsh : W.ShapedOpen Tryz.prog) : Kit W := by
 refine ⟨Tryz.laysM145.s1_3 W hsh, ?_⟩
 obtain ⟨ps, ⟨g', t', cs, fuel, p, q, hg', ht', hvar, hd, _, _⟩, _⟩ := h1
 obtain rfl := Option.some.inj (gOps.symm.trans hg')
 obtain rfl := Option.some.inj (gOpsType.symm.trans ht')
 have hc := cells_of_strs (ls := wops) Tryz.underlying184 Tryz.underlying9 cellsStr cellsOps hd
 have hcs : cs = opVals := Array.ext' (by rw [hc]; rfl)
 obtain ⟨t, fr, hb⟩ := var_block gOps hvar
 exact ⟨t, fr, by rw [← hcs]; exact hb⟩
theorem err_of {P : Program} {n nm : String} {x : DataW Unit} {r : List (String × DataW Unit)} {W : World} {g : Nat} {ti : TypeId} {ms : Array (String × TypeId)}
   (h : laidMet P ((n, .iface nm x) :: r) W) (hg : P.globalNamed n = some g) (ht : (P.globals[g]?).map (·.type) = some ti) (hi : P.underlying ti = some (.interface ms)) : ∃ tp p, W.var? P n = some #[.iface tp p] := by
 obtain ⟨ps, ⟨g0, t0, cs0, f0, p0, q0, hg0, ht0, hv0, hd0, _, e0⟩, _, _⟩ := h
 obtain rfl := Option.some.inj (hg.symm.trans hg0)
 obtain rfl := Option.some.inj (ht.symm.trans ht0)
 obtain ⟨_, u, v, hc, _, _⟩ := iface_of_trod hi hd0
 obtain ⟨l0⟩ := cs0
 obtain rfl : l0 = [.iface u v] := hc
 exact ⟨u, v, hv0⟩

set_option maxRecDepth 100000 in
theorem cellsByte : Tryz.prog.cellsOf 5 = 1 := by kernel_rfl
set_option maxRecDepth 100000 in
theorem open_bytes {H : Type} {enc : TypeId × Value → H} {W : World} {base : Nat} {v : Value} {d : DataW H} {p : List MemPlace}
   (hv : Value.okWide Tryz.prog W .any base 28 v) (h : DataW.Trod enc Tryz.prog W 0 (fun _ => true) true 28 v d p) :
   ∃ A n k, v = .slice A n k ∧ Pc.By8 W A n ∧ n ≤ 9223372036854775807 := by
 obtain ⟨a0, len, cap, rfl⟩ := okWide_slice Tryz.underlying28 hv
 obtain ⟨fuel, hf⟩ := h
 rcases open_ints Tryz.underlying28 Tryz.underlying5 cellsByte hf with ⟨hcs, hx⟩ | ⟨a, len', cap', zs, hcs, _, hl, hm, hz, hx, hcell, hwz⟩
 · simp [Value.cells] at hcs
   obtain ⟨rfl, rfl, rfl⟩ := hcs
   exact ⟨none, 0, 0, rfl, fun j hj => by omega, by omega⟩
 · simp [Value.cells] at hcs
   obtain ⟨rfl, rfl, rfl⟩ := hcs
   simp only [if_true] at hz
   unfold maxLen at hm
   refine ⟨some a, len, cap, rfl, fun j hj => ?_, by omega⟩
   have hc := hcell j (by omega)
   obtain ⟨b, off, spot⟩ := a
   have hspot : spot = none := by
     have h0 := hcell 0 (by omega)
     simpa [Addr.add] using World.cell?_spot h0
   subst hspot
   rw [Addr.add_lit] at hc
   have hw := hwz (zs.getD j 0) (by rw [List.getD_eq_getElem?_getD, List.getElem?_eq_getElem (show j < zs.length by omega)]; exact List.getElem_mem _)
   simp only [Lit.wf, Bool.and_eq_true, decide_eq_true_eq] at hw
   have e0 : IntKind.u8.min = 0 := by decide
   have e1 : IntKind.u8.max = 255 := by decide
   rw [e0, e1] at hw
   exact ⟨b, off, zs.getD j 0, rfl, World.block_lt_of_cell? W _ hc, hc, by omega, by omega⟩
theorem kt_of {W : World} (h : laidMetH Tryz.prog laid W) (hsh : W.ShapedOpen Tryz.prog) : KT W := by
 have h1 : laidMet Tryz.prog laid W := h
 have h3 := laidMet.tail (laidMet.tail h1)
 have h5 := laidMet.tail (laidMet.tail h3)
 have h6 := laidMet.tail h5
 have h7 := laidMet.tail h6
 obtain ⟨t1, p1, e1⟩ := err_of h6 gSyn gSynType Tryz.underlying118
 obtain ⟨t2, p2, e2⟩ := err_of h5 gRng gRngType Tryz.underlying118
 obtain ⟨_, _, b1⟩ := var_block gSyn e1
 obtain ⟨_, _, b2⟩ := var_block gRng e2
 exact ⟨kit_head h7 hsh, Lib.tabIs_of_head (zs := Lib.pow10Tab) gPow gPowType Tryz.underlying152 Tryz.underlying116 cellsU64 cellsPow h3, ⟨t1, p1, cell_of_row _ _ 0 _ _ _ b1⟩, ⟨t2, p2, cell_of_row _ _ 0 _ _ _ b2⟩⟩
theorem wf_i64 {n : Int} (h : (Lit.int .i64 n).wf = true) : rng n := by
 simp only [Lit.wf, Bool.and_eq_true, decide_eq_true_eq] at h
 have e0 : IntKind.i64.min = -9223372036854775808 := by decide
 have e1 : IntKind.i64.max = 9223372036854775807 := by decide
 rw [e0, e1] at h
 exact h
theorem wf_u8 {n : Int} (h : (Lit.int .u8 n).wf = true) : 0 ≤ n ∧ n < 256 := by
 simp only [Lit.wf, Bool.and_eq_true, decide_eq_true_eq] at h
 have e0 : IntKind.u8.min = 0 := by decide
 have e1 : IntKind.u8.max = 255 := by decide
 rw [e0, e1] at h
 omega
def synS : ByteArray := ⟨#[105, 110, 118, 97, 108, 105, 100, 32, 115, 121, 110, 116, 97, 120]⟩
def rngS : ByteArray := ⟨#[118, 97, 108, 117, 101, 32, 111, 117, 116, 32, 111, 102, 32, 114, 97, 110, 103, 101]⟩
noncomputable def low : Nat := (World.holding Tryz.prog default ⟨#[], #[], []⟩).heap.size
noncomputable def putRow (h : Array Obj) (g : Nat) (cs : Array Value) : Array Obj := h.modify g fun
 | .cells _ t frozen => .cells cs t frozen
 | o => o
def tab32 : List Int := [0, 1, 28, 2, 29, 14, 24, 3, 30, 22, 20, 15, 25, 17, 4, 8, 31, 27, 13, 23, 21, 19, 16, 7, 26, 12, 18, 6, 11, 5, 10, 9]
def tab64 : List Int := [0, 1, 56, 2, 57, 49, 28, 3, 61, 58, 42, 50, 38, 29, 17, 4, 62, 47, 59, 36, 45, 43, 51, 22, 53, 39, 33, 30, 24, 18, 12, 5, 63, 55, 48, 27, 60, 41, 37, 16, 46, 35, 44, 21, 52, 32, 23, 11, 54, 26, 40, 15, 34, 20, 31, 10, 25, 14, 19, 9, 13, 8, 7, 6]
def tabAcc : List Int := [128, 191, 160, 191, 128, 159, 144, 191, 128, 143, 0, 0, 0, 0, 0, 0, 0, 0, 0, 0, 0, 0, 0, 0, 0, 0, 0, 0, 0, 0, 0, 0]
noncomputable def laidWorld (os : Os) : World :=
 let w0 := World.holding Tryz.prog os ⟨#[.cells #[.string synS] 173, .cells #[.string rngS] 173], #[], []⟩
 { w0 with heap := putRow (putRow (putRow (putRow (putRow (putRow (putRow (putRow w0.heap 6 (tab32.map (Value.int .u8)).toArray) 7 (tab64.map (Value.int .u8)).toArray) 1 (Lib.pow10Tab.map (Value.int .u64)).toArray)
     8 opVals) 3 (tabAcc.map (Value.int .u8)).toArray) 2 (Pinned.utf8FirstZ.map fun (n : Nat) => Value.int .u8 (n : Int)).toArray)
     4 #[.iface 171 (.pointer (some ⟨low, 0, none⟩))]) 5 #[.iface 171 (.pointer (some ⟨low + 1, 0, none⟩))] }
theorem laid_met (os : Os) (args : Array Value) : laidMet Tryz.prog laid ((laidWorld os).forCall (fun _ _ => 0) ⟨#[], args, []⟩).memory :=
 laidMet_of_run' 8 (by kernel_rfl) (by kernel_rfl)
end Ar
end Go.Proofs.YtlggpefmojacoaaGreatDoor
end
section
namespace Go.Proofs.YtlggpefmojacoaaGreatDoor
open Go.ChangeShapes Go.WideShapes Go.ChangeAt Go.RowKit Tx
namespace Ar

set_option maxRecDepth 100000 in
theorem rnumbers_contract (H : Type) (enc : TypeId × Value → H) (W : World) (base : Nat) (args : Array Value) (ds gs : List (DataW H)) (before : List MemPlace)
   (hval : ∀ (j : Nat) t v, Tryz.f9.params[j]? = some t → args[j]? = some v → Value.okWide Tryz.prog W .any base t v)
   (hW : DataW.Whole enc Tryz.prog Tryz.f9.params.toList Rows.arithNumbersSpec.vars false W args.toList ds gs before)
   (hsz : (DataW.weightsEach Tryz.prog (Tryz.f9.params.toList ++ (OpenSpec.ofChange Rows.arithNumbersSpec).bare.plain.varTypes Tryz.prog) (ds ++ gs)).all (· ≤ reachBytes) = true)
   (hL : laidMetH Tryz.prog Rows.arithNumbersRow.laid W) (hsh : W.ShapedOpen Tryz.prog) :
   Calls Tryz.prog 9 args W fun e W' => ∃ v, e = .returned v ∧ Rows.arithNumbersSpec.post enc Tryz.prog Tryz.f9 false true false false W args v W' := by
 have hW' := hW
 obtain ⟨p, q, hA0, hV, rfl, hfz, hnd⟩ := hW
 obtain ⟨rfl, rfl⟩ := trodVars_none hV
 have hA : DataW.TrodAll enc Tryz.prog W 0 (fun _ => true) true Tryz.f9.params.toList args.toList ds p := hA0
 rw [Tryz.params9] at hA hval hsz
 obtain ⟨v0, vs0, d0, ds0, p0, q0, hargs, rfl, rfl, h0, r0⟩ := trodAll_cons hA
 obtain ⟨v1, vs1, d1, ds1, p1, q1, rfl, rfl, rfl, h1, r1⟩ := trodAll_cons r0
 obtain ⟨rfl, rfl, rfl⟩ := trodAll_nil r1
 obtain rfl : args = #[v0, v1] := by cases args; simp_all
 obtain ⟨s, rfl, rfl, rfl, hs⟩ := ChangeMaps.open_string Tryz.underlying9 (hval 0 9 v0 rfl rfl) h0
 obtain ⟨A, n, k, rfl, hl, hn⟩ := open_bytes (hval 1 28 v1 rfl rfl) h1
 refine (numbers_any s A n k W (kt_of hL hsh) hl hn).mono fun e W' ⟨he, hb⟩ => ?_
 subst he
 exact ⟨_, rfl, Law.post laidOut (by kernel_rfl) (by kernel_rfl) Tryz.underlying4 rfl rfl hW' hb⟩

theorem rnumbers_laid_met (os : Os) : laidMet Tryz.prog Rows.arithNumbersRow.laid ((laidWorld os).forCall (fun _ _ => 0) ⟨#[], #[Value.string ⟨#[]⟩, Value.slice none 0 0], []⟩).memory :=
 laid_met os _
theorem rnumbers_reads (os : Os) {H : Type} (enc : TypeId × Value → H) : ∃ places, DataW.whole enc Tryz.prog ((laidWorld os).forCall (fun _ _ => 0) ⟨#[], #[Value.string ⟨#[]⟩, Value.slice none 0 0], []⟩).memory Tryz.f9.params.toList Rows.arithNumbersSpec.vars false #[Value.string ⟨#[]⟩, Value.slice none 0 0].toList 8 = some ([.lit (.string []), .nil], [], places) :=
 ⟨[], by kernel_rfl⟩

set_option maxRecDepth 100000 in
theorem rnumbers_lifted (os : Os) (started : os.Started) (H : Type) (enc : TypeId × Value → H) (F : Stop.Interp) :
   ReturnsInHanded {} Tryz.checked os 9 .any ((OpenSpec.ofChange Rows.arithNumbersSpec).preRow enc Tryz.prog Tryz.f9 Rows.arithNumbersRow.domain false Rows.arithNumbersRow.laid)
     (((OpenSpec.ofChange Rows.arithNumbersSpec).at F).post enc Tryz.prog Tryz.f9 false true false false) := by
 obtain ⟨places, hx⟩ := rnumbers_reads os enc
 refine returnsInHanded_of_row (C := Tryz.checked) (s := OpenSpec.ofChange Rows.arithNumbersSpec) own started (by kernel_rfl) Tryz.func9
   (witness_row_at (enc := enc) (C := Tryz.checked) false (laidWorld os) #[Value.string ⟨#[]⟩, Value.slice none 0 0] rfl (by kernel_rfl) (by kernel_rfl) (by kernel_rfl)
     (OpenSpec.preRow_of_cond 8 hx (by kernel_rfl) (fun k hk => by cases hk) (by kernel_rfl) (rnumbers_laid_met os))) ?_
 intro W base args ds gs before hval hW _ _ hsz hL hsh _
 exact rnumbers_contract H enc W base args ds gs before hval hW hsz hL hsh

theorem rnumbers_said : Rows.ArithNumbersSaid :=
 OpenClaim.holds_of_cond 9 Tryz.f9 rfl rfl rfl rfl rfl rfl rfl ⟨rfl, rfl, rfl, rfl, rfl⟩ rfl rfl rfl rfl rfl (by kernel_rfl) Tryz.func9 (by kernel_rfl)
   (of_decide_eq_true (by kernel_rfl)) (by unfold Func.isWrapper; first | (rw [if_pos (by decide +kernel)]; kernel_rfl) | (rw [if_neg (by decide +kernel)]; exact ⟨rfl, rfl⟩))
   (fun os started H enc _ F => by rw [OpenClaim.pre_eq_preRow]; exact rnumbers_lifted os started H enc F)

theorem rnumbers_plain (f : FuncId) (fn : Func) (hf : Tryz.pinned.checked.prog.funcNamed "scullion/scullionlaw13.ArithNumbers" = some f) (hfn : Tryz.pinned.checked.prog.funcs[f]? = some fn) :
   true = Tryz.pinned.checked.prog.looks [] ∧ ∀ (j : Nat) t, fn.params[j]? = some t → Tryz.pinned.checked.prog.wantsStandIn t = false := by
 obtain rfl : f = 9 := Option.some.inj ((show Tryz.prog.funcNamed "scullion/scullionlaw13.ArithNumbers" = some 9 by kernel_rfl).symm.trans hf) |>.symm
 obtain rfl : fn = Tryz.f9 := (Option.some.inj (Tryz.func9.symm.trans hfn)).symm
 refine ⟨by kernel_rfl, fun j t ht => ?_⟩
 rw [Tryz.params9] at ht
 have hm := Array.mem_of_getElem? ht
 simp at hm
 rcases hm with rfl | rfl
 · exact (show Tryz.prog.wantsStandIn 9 = false by kernel_rfl)
 · exact (show Tryz.prog.wantsStandIn 28 = false by kernel_rfl)

theorem rnumbers_card : Rows.ArithNumbersCardSaid :=
 Claim7.holds_tied_plain_at .later [] _ _ _ _ rnumbers_said (fun _ h => by cases h) (by kernel_rfl) (fun _ h => by cases h) arithNumbers_row_tie rfl ⟨rfl, rfl⟩ (by kernel_rfl) rfl rnumbers_plain (by kernel_rfl)
end Ar
end Go.Proofs.YtlggpefmojacoaaGreatDoor
end
