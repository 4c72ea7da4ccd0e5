/-
  Parts of the proof, merged.
-/
import Derived.Carry
import Derived.ChangeKeysEq
import Derived.DeepKeys4
import Derived.Laws.ResultCell
import Derived.Maps.OwnIn
import Derived.Maps.Views
import Derived.Test.YtahjonfmhejoeaaGreatDoorVa13
import Derived.Test.YtahjonfmhejoeaaGreatDoorVa30
import Derived.Test.YtahjonfmhejoeaaGreatDoorVa41
namespace Go.Proofs.YtahjonfmhejoeaaGreatDoor
section
open Go.RowKit Go.Maps Tx
namespace Sy
open Lx (Tok tv tvs tvs_at Qt)
def tk (k : Int) (x : List UInt8) : Lit := .string (keyBytes [.int .i64 k, .string x])
theorem tok_is : ∃ f0 f1 : Field, Tryz.prog.underlying 92 = some (.struct #[f0, f1]) ∧ Tryz.prog.underlying f0.type = some (.int .i64) ∧ Tryz.prog.underlying f1.type = some .string ∧ f0.offset = 0 ∧ f1.offset = 1 ∧ (f0.name != "_") = true ∧ (f1.name != "_") = true ∧ Tryz.prog.cellsOf f0.type = 1 ∧ Tryz.prog.cellsOf f1.type = 1 :=
 ⟨_, _, Tryz.underlying92, by kernel_rfl, by kernel_rfl, rfl, rfl, by kernel_rfl, by kernel_rfl, by kernel_rfl, by kernel_rfl⟩
theorem cellsTok : Tryz.prog.cellsOf 92 = 2 := by kernel_rfl
theorem keyTTok : Tryz.prog.keyType 92 = true := by kernel_rfl
theorem typesTok : ∃ n, Tryz.prog.types.size = n + 1 := by
 have h : decide (1 ≤ Tryz.prog.types.size) = true := by kernel_rfl
 have h := of_decide_eq_true h
 exact ⟨Tryz.prog.types.size - 1, by omega⟩
theorem lits_tok {P : Program} {t : TypeId} {f0 f1 : Field} (hu : P.underlying t = some (.struct #[f0, f1])) (t0 : P.underlying f0.type = some (.int .i64)) (t1 : P.underlying f1.type = some .string) (o0 : f0.offset = 0) (o1 : f1.offset = 1) (n0 : (f0.name != "_") = true) (n1 : (f1.name != "_") = true)
   (c2 : P.cellsOf t = 2) (c0 : P.cellsOf f0.type = 1) (c1 : P.cellsOf f1.type = 1) {n : Nat} (k : Int) (s : ByteArray) (hk : (Lit.int .i64 k).wf = true) (hs : s.size ≤ maxLen) :
   P.keyLits (n + 2) t [.int .i64 k, .string s] = some [.int .i64 k, .string s.data.toList] := by
 unfold Program.keyLits
 rw [hu]
 simp only [c2, List.length_cons, List.length_nil, Nat.reduceAdd, Array.all_eq_true', List.mem_toArray, true_and]
 rw [if_pos (by
   intro f hf
   simp at hf
   rcases hf with rfl | rfl
   · exact n0
   · exact n1)]
 simp only [List.mapM_cons, List.mapM_nil, o0, o1, c0, c1, List.drop_zero, List.take_succ_cons, List.take_zero, List.drop_succ_cons]
 have e1 : P.keyLits (n + 1) f0.type [.int .i64 k] = some [.int .i64 k] := by
   unfold Program.keyLits
   rw [t0]
   simp only [true_and, hk, if_true]
 have e2 : P.keyLits (n + 1) f1.type [.string s] = some [.string s.data.toList] := by
   unfold Program.keyLits
   rw [t1]
   simp only [hs, if_true]
 rw [e1, e2]
 rfl
theorem kind_wf {k : Int} (h : 0 ≤ k ∧ k ≤ 2) : (Lit.int .i64 k).wf = true := by
 have : k = 0 ∨ k = 1 ∨ k = 2 := by omega
 rcases this with rfl | rfl | rfl <;> decide
theorem keyTok {k : Int} (h : 0 ≤ k ∧ k ≤ 2) {x : List UInt8} (hx : x.length ≤ 20000) : keyOf Tryz.prog 92 (.agg #[.int .i64 k, .string (bs x)]) = some (tk k x) := by
 obtain ⟨f0, f1, hu, t0, t1, o0, o1, n0, n1, c0, c1⟩ := tok_is
 obtain ⟨n, hn⟩ := typesTok
 have hf : (Value.agg #[.int .i64 k, .string (bs x)]).formed Tryz.prog 92 = true := by
   unfold Value.formed
   simp [hu, cellsTok]
 have hl := lits_tok hu t0 t1 o0 o1 n0 n1 cellsTok c0 c1 (n := n) k (bs x) (kind_wf h) (by rw [bs_size]; unfold maxLen; omega)
 unfold keyOf
 rw [hu]
 simp only [keyTTok, hn, hf, Bool.and_self, if_true]
 show Option.map _ (Tryz.prog.keyLits (n + 2) 92 [.int .i64 k, .string (bs x)]) = _
 rw [hl]
 have : (bs x).data.toList = x := by have := toL_bs x; exact this
 rw [this]
 rfl
theorem tkK : Keyed Tryz.prog 92 := Keyed.of_law (deep_law_laid (by kernel_rfl) (m := 2) (by omega) (of_decide_eq_true (by kernel_rfl)) (by kernel_rfl) (by kernel_rfl))
theorem tk_ne {k k' : Int} {x x' : List UInt8} (h : 0 ≤ k ∧ k ≤ 2) (h' : 0 ≤ k' ∧ k' ≤ 2) (hx : x.length ≤ 20000) (hx' : x'.length ≤ 20000) (hn : ¬ (k = k' ∧ x = x')) : tk k x ≠ tk k' x' := by
 intro e
 have h1 := keyTok h hx
 rw [e] at h1
 have h2 := tkK.inj h1 (keyTok h' hx')
 injection h2 with h2
 have h2 := congrArg Array.toList h2
 simp at h2
 exact hn ⟨h2.1, by rw [← toL_bs x, h2.2, toL_bs]⟩
theorem tk_key {k : Int} {x : List UInt8} (h : 0 ≤ k ∧ k ≤ 2) (hx : x.length ≤ 20000) : WideAt.IsKeyLit (tk k x) := tkK.key (keyTok h hx)
def fnR : Value → Option (DataW Unit × List MemPlace)
 | .func (.func f) a b => if a.size = 0 ∧ b.size = 0 then some (.lit (.int .i64 (f : Int)), []) else none
 | .nilFunc => some (.agg [], [])
 | _ => none
def fd (f : Nat) : DataW Unit := .lit (.int .i64 (f : Int))
theorem fnR_V (f : Nat) : fnR (.func (.func f) #[] #[]) = some (fd f, []) := rfl
theorem fnR_inv {v : Value} {f : Nat} {ps : List MemPlace} (h : fnR v = some (fd f, ps)) : v = .func (.func f) #[] #[] := by
 unfold fnR at h
 split at h
 · split at h
   · rename_i hc
     obtain ⟨h1, h2⟩ := hc
     simp [fd] at h
     obtain ⟨h3, _⟩ := h
     rw [Array.eq_empty_of_size_eq_zero h1, Array.eq_empty_of_size_eq_zero h2]
     have h4 := Int.ofNat.inj h3
     rw [h4]
   · cases h
 · simp [fd] at h
 · cases h
theorem fnR_nil {v : Value} {ps : List MemPlace} (h : fnR v = some (.agg [], ps)) : v = .nilFunc := by
 unfold fnR at h
 split at h
 · split at h
   · simp at h
   · cases h
 · rfl
 · cases h
def putE (D : DataW Unit) (e : Int × List UInt8 × Nat) : DataW Unit := D.put (tk e.1 e.2.1) (fd e.2.2)
def tab : List (Int × List UInt8 × Nat) := [(1, [40], 49), (0, [123], 50), (0, kIf, 51), (0, kWhile, 52), (0, kUntil, 52), (0, kFor, 53), (0, kCase, 54)]
theorem tab_ok : ∀ e ∈ tab, (0 ≤ e.1 ∧ e.1 ≤ 2) ∧ e.2.1.length ≤ 20000 ∧ consF e.1 e.2.1 = some e.2.2 := by decide
theorem cons_tab {k : Int} {x : List UInt8} {f : Nat} (h : consF k x = some f) : (k, x, f) ∈ tab := by
 unfold consF at h
 split at h
 · rename_i hc; obtain ⟨rfl, rfl⟩ := hc; cases h; decide
 split at h
 · rename_i hc; obtain ⟨rfl, rfl⟩ := hc; cases h; decide
 split at h
 · rename_i hc; obtain ⟨rfl, rfl⟩ := hc; cases h; decide
 split at h
 · rename_i hc; obtain ⟨rfl, rfl | rfl⟩ := hc <;> cases h <;> decide
 split at h
 · rename_i hc; obtain ⟨rfl, rfl⟩ := hc; cases h; decide
 split at h
 · rename_i hc; obtain ⟨rfl, rfl⟩ := hc; cases h; decide
 · cases h
theorem putE_isMap {D : DataW Unit} (h : IsMap D) (e : Int × List UInt8 × Nat) : IsMap (putE D e) := h.put _ _
theorem fold_other {k : Int} {x : List UInt8} (hk : 0 ≤ k ∧ k ≤ 2) (hx : x.length ≤ 20000) (z : DataW Unit) : ∀ (l : List (Int × List UInt8 × Nat)) (D : DataW Unit), (∀ e ∈ l, e ∈ tab) → (∀ e ∈ l, ¬ (k = e.1 ∧ x = e.2.1)) →
   (l.foldl putE D).atKey (tk k x) z = D.atKey (tk k x) z ∧ Maps.has (l.foldl putE D) (tk k x) = Maps.has D (tk k x)
 | [], D, _, _ => ⟨rfl, rfl⟩
 | e :: l, D, ht, hn => by
   obtain ⟨h1, h2⟩ := fold_other hk hx z l (putE D e) (fun a ha => ht a (by simp [ha])) (fun a ha => hn a (by simp [ha]))
   have he := tab_ok e (ht e (by simp))
   have hne := tk_ne hk he.1 hx he.2.1 (hn e (by simp))
   refine ⟨h1.trans (atKey_put_other hne _ _), h2.trans (has_put_other hne _)⟩
theorem fold_mem {e0 : Int × List UInt8 × Nat} (h0 : e0 ∈ tab) (z : DataW Unit) : ∀ (l : List (Int × List UInt8 × Nat)) (D : DataW Unit), IsMap D → (∀ e ∈ l, e ∈ tab) → e0 ∈ l →
   (l.foldl putE D).atKey (tk e0.1 e0.2.1) z = fd e0.2.2 ∧ Maps.has (l.foldl putE D) (tk e0.1 e0.2.1) = true
 | [], D, _, _, h => by cases h
 | e :: l, D, hD, ht, h => by
   have hk := tab_ok e0 h0
   by_cases hm : e0 ∈ l
   · exact fold_mem h0 z l (putE D e) (putE_isMap hD e) (fun a ha => ht a (by simp [ha])) hm
   · have he : e0 = e := by
       rcases List.mem_cons.1 h with h | h
       · exact h
       · exact absurd h hm
     subst he
     have := fold_other hk.1 hk.2.1 z l (putE D e0) (fun a ha => ht a (by simp [ha])) (fun a ha hc => hm (by
       have h2 := (tab_ok a (ht a (by simp [ha]))).2.2
       have h3 := hk.2.2
       rw [hc.1, hc.2, h2] at h3
       have h4 : a.2.2 = e0.2.2 := Option.some.inj h3
       have : e0 = a := Prod.ext hc.1 (Prod.ext hc.2 h4.symm)
       rw [this]; exact ha))
     exact ⟨this.1.trans (atKey_put_same hD (tk_key hk.1 hk.2.1) _ _), this.2.trans (has_put_same hD (tk_key hk.1 hk.2.1) _)⟩
theorem fold_at {l : List (Int × List UInt8 × Nat)} (hl : ∀ e ∈ l, e ∈ tab) (hall : ∀ e ∈ tab, e ∈ l) {k : Int} {x : List UInt8} (h : 0 ≤ k ∧ k ≤ 2) (hx : x.length ≤ 20000) (z : DataW Unit) :
   match consF k x with
   | some f => (l.foldl putE (.map [])).atKey (tk k x) z = fd f ∧ Maps.has (l.foldl putE (.map [])) (tk k x) = true
   | none => (l.foldl putE (.map [])).atKey (tk k x) z = z ∧ Maps.has (l.foldl putE (.map [])) (tk k x) = false := by
 cases hf : consF k x with
 | none =>
   obtain ⟨h1, h2⟩ := fold_other h hx z l (.map []) hl (fun e he hc => by
     have := (tab_ok e (hl e he)).2.2
     rw [← hc.1, ← hc.2, hf] at this
     cases this)
   exact ⟨h1, h2⟩
 | some f => exact fold_mem (cons_tab hf) z l (.map []) isMap_empty hl (hall _ (cons_tab hf))
theorem mp_of {w : World} {m n : Nat} {l : List (Int × List UInt8 × Nat)} (hl : ∀ e ∈ l, e ∈ tab) (hall : ∀ e ∈ tab, e ∈ l) (h : w.ownsMap Tryz.prog 92 fnR m n (l.foldl putE (.map []))) : Mp w m := by
 obtain ⟨es, clock, hb, F, hs, hD⟩ := h
 refine ⟨es, clock, hb, fun W k x hk hx hW => ?_⟩
 have hW2 : W.ownsMap Tryz.prog 92 fnR m n (l.foldl putE (.map [])) := ⟨es, clock, hW, F, hs, hD⟩
 obtain ⟨v, ps, hrun, hv⟩ := hW2.look_ok tkK Tryz.underlying49 (z := .nilFunc) (by kernel_rfl) (zd := .agg []) (zp := []) rfl (keyTok hk hx)
 have hc := fold_at hl hall hk hx (.agg [])
 rw [hrun]
 cases hf : consF k x with
 | none =>
   rw [hf] at hc
   rw [hc.1] at hv
   rw [hc.2, fnR_nil hv]
 | some f =>
   rw [hf] at hc
   rw [hc.1] at hv
   rw [hc.2, fnR_inv hv]
def opsAt : Code → Array Oper
 | .seq _ (.seq (.region _ ops _) _) => ops
 | _ => #[]
noncomputable def cops : Array Oper := match Tryz.f24.body with
 | some c => opsAt c
 | none => #[]
def Lb (b0 b1 b2 b3 b4 b5 b6 : Bool) : Array Bool := #[true, true, b0, true, b1, true, b2, true, b3, true, b4, true, b5, true, b6, false, false]
set_option maxRecDepth 100000 in
theorem ready_ne : ∀ b0 b1 b2 b3 b4 b5 b6 : Bool, Region.ready .any cops (Lb b0 b1 b2 b3 b4 b5 b6) ≠ [] := by decide +kernel
set_option maxRecDepth 100000 in
theorem ready_all : ∀ b0 b1 b2 b3 b4 b5 b6 : Bool, (Region.ready .any cops (Lb b0 b1 b2 b3 b4 b5 b6)).all (fun i => (i == 2 && !b0) || (i == 4 && !b1) || (i == 6 && !b2) || (i == 8 && !b3) || (i == 10 && !b4) || (i == 12 && !b5) || (i == 14 && !b6) || (i == 15 && (b0 && (b1 && (b2 && (b3 && (b4 && (b5 && b6)))))))) = true := by decide +kernel
theorem ready_mem (b0 b1 b2 b3 b4 b5 b6 : Bool) (i : Nat) (hi : i ∈ Region.ready .any cops (Lb b0 b1 b2 b3 b4 b5 b6)) : (i = 2 ∧ b0 = false) ∨ (i = 4 ∧ b1 = false) ∨ (i = 6 ∧ b2 = false) ∨ (i = 8 ∧ b3 = false) ∨ (i = 10 ∧ b4 = false) ∨ (i = 12 ∧ b5 = false) ∨ (i = 14 ∧ b6 = false) ∨ (i = 15 ∧ b0 = true ∧ b1 = true ∧ b2 = true ∧ b3 = true ∧ b4 = true ∧ b5 = true ∧ b6 = true) := by
 have h := List.all_eq_true.1 (ready_all b0 b1 b2 b3 b4 b5 b6) i hi
 simpa [or_assoc] using h
theorem ins_step {Q : Exit → Act → World → Prop} {o : Oper} {a : Act} {w : World} {x : Operand} {m n : Nat} {D : DataW Unit} {k : Int} {xs : List UInt8} {f : Nat} {K : Act → World → Prop} (ho : o.op = .insert 49 (.tmp 1) x (.func f)) (hd : o.dst = none)
   (h1 : a.eval (.tmp 1) = .map (some m)) (hx : a.eval x = .agg #[.int .i64 k, .string (bs xs)]) (hf : a.eval (.func f) = .func (.func f) #[] #[]) (hk : 0 ≤ k ∧ k ≤ 2) (hxs : xs.length ≤ 20000) (hn : n < maxLen) (hown : w.ownsMap Tryz.prog 92 fnR m n D)
   (hK : ∀ w', w'.ownsMap Tryz.prog 92 fnR m (n + 1) (D.put (tk k xs) (fd f)) → w.grownBy w' (some m) → K a w') : Oper.wp Tryz.prog o a w K Q := by
 obtain ⟨w', hrun, r1, r2⟩ := hown.update tkK Tryz.underlying49 hn (keyTok hk hxs) (fnR_V f)
 unfold Oper.wp
 simp only [execOp, ho, h1, hx, hf]
 simp [hrun, Result.andThen]
 rw [Oper.upon_skip, hd]
 exact hK _ r1 r2
theorem mv_step {Q : Exit → Act → World → Prop} {o : Oper} {a : Act} {w : World} {x : Operand} {v : Value} {d : Option Tmp} {K : Act → World → Prop} (ho : o.op = .move x) (hd : o.dst = d) (hx : a.eval x = v) (hK : K (a.put d v) w) : Oper.wp Tryz.prog o a w K Q := by
 unfold Oper.wp
 rw [App.ex_mv ho hx, Oper.upon_value, hd]
 exact hK
theorem as_step {Q : Exit → Act → World → Prop} {o : Oper} {a : Act} {w : World} {x : Operand} {v : Value} {d : Option Tmp} {K : Act → World → Prop} (ho : o.op = .assign x) (hd : o.dst = d) (hx : a.eval x = v) (hK : K (a.put d v) w) : Oper.wp Tryz.prog o a w K Q := by
 unfold Oper.wp
 have : (execOp a.eval o).run Tryz.prog w = .ok (.value v) w := by simp [execOp, ho, hx]
 rw [this, Oper.upon_value, hd]
 exact hK
theorem mm_step {Q : Exit → Act → World → Prop} {o : Oper} {a : Act} {w : World} {d : Option Tmp} {K : Act → World → Prop} (ho : o.op = .makeMap 49 none) (hd : o.dst = d) (hK : K (a.put d (.map (some w.heap.size))) (w.alloc (.map #[] 0))) : Oper.wp Tryz.prog o a w K Q := by
 unfold Oper.wp
 have : (execOp a.eval o).run Tryz.prog w = .ok (.value (.map (some w.heap.size))) (w.alloc (.map #[] 0)) := by simp [execOp, ho, run_makeMap]
 rw [this, Oper.upon_value, hd]
 exact hK
def nbb (b : Bool) : Nat := if b then 0 else 1
set_option maxHeartbeats 2000000 in
set_option maxRecDepth 100000 in
theorem ins_all {Q : Exit → Act → World → Prop} {a : Act} {w0 : World} {m : Nat} (hm : w0.heap.size ≤ m) (h1 : a.eval (.tmp 1) = .map (some m))
   (k0 : a.eval (.tmp 2) = .agg #[.int .i64 1, .string (bs [40])]) (k1 : a.eval (.tmp 3) = .agg #[.int .i64 0, .string (bs [123])]) (k2 : a.eval (.tmp 4) = .agg #[.int .i64 0, .string (bs kIf)]) (k3 : a.eval (.tmp 5) = .agg #[.int .i64 0, .string (bs kWhile)]) (k4 : a.eval (.tmp 6) = .agg #[.int .i64 0, .string (bs kUntil)]) (k5 : a.eval (.tmp 7) = .agg #[.int .i64 0, .string (bs kFor)]) (k6 : a.eval (.tmp 8) = .agg #[.int .i64 0, .string (bs kCase)]) (hs : 9 < a.tmps.size)
   (hQ : ∀ w', Kept (Mp w' m) → Below w0.heap.size w0 w' → m < w'.heap.size → Q .normal ((a.put (some 9) (.map (some m))).put (some 0) (.map (some m))) w') :
   ∀ (fuel : Nat) (b0 b1 b2 b3 b4 b5 b6 : Bool) (w : World) (l : List (Int × List UInt8 × Nat)), nbb b0 + nbb b1 + nbb b2 + nbb b3 + nbb b4 + nbb b5 + nbb b6 + 2 ≤ fuel → (∀ e ∈ l, e ∈ tab) →
     (b0 = true → (1, [40], 49) ∈ l) → (b1 = true → (0, [123], 50) ∈ l) → (b2 = true → (0, kIf, 51) ∈ l) → (b3 = true → (0, kWhile, 52) ∈ l) → (b4 = true → (0, kUntil, 52) ∈ l) → (b5 = true → (0, kFor, 53) ∈ l) → (b6 = true → (0, kCase, 54) ∈ l) →
     (∃ n, n + fuel ≤ 100 ∧ w.ownsMap Tryz.prog 92 fnR m n (l.foldl putE (.map []))) → Below w0.heap.size w0 w → wpAny Tryz.prog .any cops Q fuel (Lb b0 b1 b2 b3 b4 b5 b6) a w
 | 0, _, _, _, _, _, _, _, _, _, h, _, _, _, _, _, _, _, _, _, _ => by omega
 | fuel + 1, b0, b1, b2, b3, b4, b5, b6, w, l, hc, hl, m0, m1, m2, m3, m4, m5, m6, ⟨n, hn, hown⟩, hb => by
   have hmw : m < w.heap.size := hown.lt
   have hn2 : n < maxLen := by unfold maxLen; omega
   refine ⟨fun h0 => absurd h0 (ready_ne b0 b1 b2 b3 b4 b5 b6), fun i hi => ?_⟩
   rcases ready_mem b0 b1 b2 b3 b4 b5 b6 i hi with ⟨rfl, rfl⟩ | ⟨rfl, rfl⟩ | ⟨rfl, rfl⟩ | ⟨rfl, rfl⟩ | ⟨rfl, rfl⟩ | ⟨rfl, rfl⟩ | ⟨rfl, rfl⟩ | ⟨rfl, rfl, rfl, rfl, rfl, rfl, rfl, rfl⟩
   · refine wpOp_step (o := _) rfl (fun K hK => ?_)
     rw [if_pos (by kernel_rfl)]
     refine ins_step (x := .tmp 2) rfl rfl h1 k0 rfl (by decide) (by decide) hn2 hown fun w' own' hg => hK _ _ ?_
     exact ins_all hm h1 k0 k1 k2 k3 k4 k5 k6 hs hQ fuel true b1 b2 b3 b4 b5 b6 w' (l ++ [(1, [40], 49)]) (by simp [nbb] at hc ⊢; omega) (by
       intro e he
       rcases List.mem_append.1 he with he | he
       · exact hl e he
       · rw [List.mem_singleton.1 he]; decide) (fun _ => by simp) (fun h => by have := m1 h; simp [this]) (fun h => by have := m2 h; simp [this]) (fun h => by have := m3 h; simp [this]) (fun h => by have := m4 h; simp [this]) (fun h => by have := m5 h; simp [this]) (fun h => by have := m6 h; simp [this]) ⟨n + 1, by omega, by rw [List.foldl_append]; exact own'⟩ (hb.grown hg hb.size (fun k hk => by cases hk; exact hm))
   · refine wpOp_step (o := _) rfl (fun K hK => ?_)
     rw [if_pos (by kernel_rfl)]
     refine ins_step (x := .tmp 3) rfl rfl h1 k1 rfl (by decide) (by decide) hn2 hown fun w' own' hg => hK _ _ ?_
     exact ins_all hm h1 k0 k1 k2 k3 k4 k5 k6 hs hQ fuel b0 true b2 b3 b4 b5 b6 w' (l ++ [(0, [123], 50)]) (by simp [nbb] at hc ⊢; omega) (by
       intro e he
       rcases List.mem_append.1 he with he | he
       · exact hl e he
       · rw [List.mem_singleton.1 he]; decide) (fun h => by have := m0 h; simp [this]) (fun _ => by simp) (fun h => by have := m2 h; simp [this]) (fun h => by have := m3 h; simp [this]) (fun h => by have := m4 h; simp [this]) (fun h => by have := m5 h; simp [this]) (fun h => by have := m6 h; simp [this]) ⟨n + 1, by omega, by rw [List.foldl_append]; exact own'⟩ (hb.grown hg hb.size (fun k hk => by cases hk; exact hm))
   · refine wpOp_step (o := _) rfl (fun K hK => ?_)
     rw [if_pos (by kernel_rfl)]
     refine ins_step (x := .tmp 4) rfl rfl h1 k2 rfl (by decide) (by decide) hn2 hown fun w' own' hg => hK _ _ ?_
     exact ins_all hm h1 k0 k1 k2 k3 k4 k5 k6 hs hQ fuel b0 b1 true b3 b4 b5 b6 w' (l ++ [(0, kIf, 51)]) (by simp [nbb] at hc ⊢; omega) (by
       intro e he
       rcases List.mem_append.1 he with he | he
       · exact hl e he
       · rw [List.mem_singleton.1 he]; decide) (fun h => by have := m0 h; simp [this]) (fun h => by have := m1 h; simp [this]) (fun _ => by simp) (fun h => by have := m3 h; simp [this]) (fun h => by have := m4 h; simp [this]) (fun h => by have := m5 h; simp [this]) (fun h => by have := m6 h; simp [this]) ⟨n + 1, by omega, by rw [List.foldl_append]; exact own'⟩ (hb.grown hg hb.size (fun k hk => by cases hk; exact hm))
   · refine wpOp_step (o := _) rfl (fun K hK => ?_)
     rw [if_pos (by kernel_rfl)]
     refine ins_step (x := .tmp 5) rfl rfl h1 k3 rfl (by decide) (by decide) hn2 hown fun w' own' hg => hK _ _ ?_
     exact ins_all hm h1 k0 k1 k2 k3 k4 k5 k6 hs hQ fuel b0 b1 b2 true b4 b5 b6 w' (l ++ [(0, kWhile, 52)]) (by simp [nbb] at hc ⊢; omega) (by
       intro e he
       rcases List.mem_append.1 he with he | he
       · exact hl e he
       · rw [List.mem_singleton.1 he]; decide) (fun h => by have := m0 h; simp [this]) (fun h => by have := m1 h; simp [this]) (fun h => by have := m2 h; simp [this]) (fun _ => by simp) (fun h => by have := m4 h; simp [this]) (fun h => by have := m5 h; simp [this]) (fun h => by have := m6 h; simp [this]) ⟨n + 1, by omega, by rw [List.foldl_append]; exact own'⟩ (hb.grown hg hb.size (fun k hk => by cases hk; exact hm))
   · refine wpOp_step (o := _) rfl (fun K hK => ?_)
     rw [if_pos (by kernel_rfl)]
     refine ins_step (x := .tmp 6) rfl rfl h1 k4 rfl (by decide) (by decide) hn2 hown fun w' own' hg => hK _ _ ?_
     exact ins_all hm h1 k0 k1 k2 k3 k4 k5 k6 hs hQ fuel b0 b1 b2 b3 true b5 b6 w' (l ++ [(0, kUntil, 52)]) (by simp [nbb] at hc ⊢; omega) (by
       intro e he
       rcases List.mem_append.1 he with he | he
       · exact hl e he
       · rw [List.mem_singleton.1 he]; decide) (fun h => by have := m0 h; simp [this]) (fun h => by have := m1 h; simp [this]) (fun h => by have := m2 h; simp [this]) (fun h => by have := m3 h; simp [this]) (fun _ => by simp) (fun h => by have := m5 h; simp [this]) (fun h => by have := m6 h; simp [this]) ⟨n + 1, by omega, by rw [List.foldl_append]; exact own'⟩ (hb.grown hg hb.size (fun k hk => by cases hk; exact hm))
   · refine wpOp_step (o := _) rfl (fun K hK => ?_)
     rw [if_pos (by kernel_rfl)]
     refine ins_step (x := .tmp 7) rfl rfl h1 k5 rfl (by decide) (by decide) hn2 hown fun w' own' hg => hK _ _ ?_
     exact ins_all hm h1 k0 k1 k2 k3 k4 k5 k6 hs hQ fuel b0 b1 b2 b3 b4 true b6 w' (l ++ [(0, kFor, 53)]) (by simp [nbb] at hc ⊢; omega) (by
       intro e he
       rcases List.mem_append.1 he with he | he
       · exact hl e he
       · rw [List.mem_singleton.1 he]; decide) (fun h => by have := m0 h; simp [this]) (fun h => by have := m1 h; simp [this]) (fun h => by have := m2 h; simp [this]) (fun h => by have := m3 h; simp [this]) (fun h => by have := m4 h; simp [this]) (fun _ => by simp) (fun h => by have := m6 h; simp [this]) ⟨n + 1, by omega, by rw [List.foldl_append]; exact own'⟩ (hb.grown hg hb.size (fun k hk => by cases hk; exact hm))
   · refine wpOp_step (o := _) rfl (fun K hK => ?_)
     rw [if_pos (by kernel_rfl)]
     refine ins_step (x := .tmp 8) rfl rfl h1 k6 rfl (by decide) (by decide) hn2 hown fun w' own' hg => hK _ _ ?_
     exact ins_all hm h1 k0 k1 k2 k3 k4 k5 k6 hs hQ fuel b0 b1 b2 b3 b4 b5 true w' (l ++ [(0, kCase, 54)]) (by simp [nbb] at hc ⊢; omega) (by
       intro e he
       rcases List.mem_append.1 he with he | he
       · exact hl e he
       · rw [List.mem_singleton.1 he]; decide) (fun h => by have := m0 h; simp [this]) (fun h => by have := m1 h; simp [this]) (fun h => by have := m2 h; simp [this]) (fun h => by have := m3 h; simp [this]) (fun h => by have := m4 h; simp [this]) (fun h => by have := m5 h; simp [this]) (fun _ => by simp) ⟨n + 1, by omega, by rw [List.foldl_append]; exact own'⟩ (hb.grown hg hb.size (fun k hk => by cases hk; exact hm))
   · refine wpOp_step (o := _) rfl (fun K hK => ?_)
     rw [if_pos (by kernel_rfl)]
     refine mv_step (d := some 9) rfl rfl h1 (hK _ _ ?_)
     obtain ⟨f2, rfl⟩ : ∃ f2, fuel = f2 + 1 := ⟨fuel - 1, by simp [nbb] at hc; omega⟩
     refine wpAny_ready (rs := [16]) (by kernel_rfl) (by simp) ?_
     refine AllReady.cons (o := _) rfl (fun K2 hK2 => ?_) AllReady.nil
     rw [if_pos (by kernel_rfl)]
     refine as_step (d := some 0) rfl rfl (App.ev_same hs) (hK2 _ _ ?_)
     refine wpAny_done (by kernel_rfl) (hQ w ⟨mp_of hl (fun e he => ?_) hown⟩ hb hmw) _
     simp only [tab, List.mem_cons, List.not_mem_nil, or_false] at he
     rcases he with rfl | rfl | rfl | rfl | rfl | rfl | rfl
     · exact m0 rfl
     · exact m1 rfl
     · exact m2 rfl
     · exact m3 rfl
     · exact m4 rfl
     · exact m5 rfl
     · exact m6 rfl
set_option maxHeartbeats 4000000 in
set_option maxRecDepth 100000 in
theorem constructs_any (w : World) : Calls Tryz.prog 24 #[] w fun e w' => ∃ m, e = .returned (.map (some m)) ∧ w.heap.size ≤ m ∧ m < w'.heap.size ∧ Kept (Mp w' m) ∧ Kept (Below w.heap.size w w') := by
 go_enter Tryz.func24, Tryz.ntmps24
 go_upto_region 1 with fail
 refine wp_region_any (by kernel_rfl) ?_
 change wpAny _ .any cops _ _ _ _ w.drew
 refine wpAny_take (i := 1) (oi := { dst := some 2, op := .build 92 #[(0, .const (.int .i64 1)), (1, .const (.string ⟨#[40]⟩))], type := 92, pos := "construct.go:10", after := #[], guard := none }) (v := .agg #[.int .i64 1, .string ⟨#[40]⟩]) (by kernel_rfl) (by kernel_rfl) (by kernel_rfl) (by kernel_rfl) (fun c a w h => h) (.inl ⟨by kernel_rfl, fun w' => by kernel_rfl⟩) ?_
 refine wpAny_take (i := 3) (oi := { dst := some 3, op := .build 92 #[(0, .const (.int .i64 0)), (1, .const (.string ⟨#[123]⟩))], type := 92, pos := "construct.go:10", after := #[], guard := none }) (v := .agg #[.int .i64 0, .string ⟨#[123]⟩]) (by kernel_rfl) (by kernel_rfl) (by kernel_rfl) (by kernel_rfl) (fun c a w h => h) (.inl ⟨by kernel_rfl, fun w' => by kernel_rfl⟩) ?_
 refine wpAny_take (i := 5) (oi := { dst := some 4, op := .build 92 #[(0, .const (.int .i64 0)), (1, .const (.string ⟨#[105, 102]⟩))], type := 92, pos := "construct.go:10", after := #[], guard := none }) (v := .agg #[.int .i64 0, .string ⟨#[105, 102]⟩]) (by kernel_rfl) (by kernel_rfl) (by kernel_rfl) (by kernel_rfl) (fun c a w h => h) (.inl ⟨by kernel_rfl, fun w' => by kernel_rfl⟩) ?_
 refine wpAny_take (i := 7) (oi := { dst := some 5, op := .build 92 #[(0, .const (.int .i64 0)), (1, .const (.string ⟨#[119, 104, 105, 108, 101]⟩))], type := 92, pos := "construct.go:10", after := #[], guard := none }) (v := .agg #[.int .i64 0, .string ⟨#[119, 104, 105, 108, 101]⟩]) (by kernel_rfl) (by kernel_rfl) (by kernel_rfl) (by kernel_rfl) (fun c a w h => h) (.inl ⟨by kernel_rfl, fun w' => by kernel_rfl⟩) ?_
 refine wpAny_take (i := 9) (oi := { dst := some 6, op := .build 92 #[(0, .const (.int .i64 0)), (1, .const (.string ⟨#[117, 110, 116, 105, 108]⟩))], type := 92, pos := "construct.go:10", after := #[], guard := none }) (v := .agg #[.int .i64 0, .string ⟨#[117, 110, 116, 105, 108]⟩]) (by kernel_rfl) (by kernel_rfl) (by kernel_rfl) (by kernel_rfl) (fun c a w h => h) (.inl ⟨by kernel_rfl, fun w' => by kernel_rfl⟩) ?_
 refine wpAny_take (i := 11) (oi := { dst := some 7, op := .build 92 #[(0, .const (.int .i64 0)), (1, .const (.string ⟨#[102, 111, 114]⟩))], type := 92, pos := "construct.go:10", after := #[], guard := none }) (v := .agg #[.int .i64 0, .string ⟨#[102, 111, 114]⟩]) (by kernel_rfl) (by kernel_rfl) (by kernel_rfl) (by kernel_rfl) (fun c a w h => h) (.inl ⟨by kernel_rfl, fun w' => by kernel_rfl⟩) ?_
 refine wpAny_take (i := 13) (oi := { dst := some 8, op := .build 92 #[(0, .const (.int .i64 0)), (1, .const (.string ⟨#[99, 97, 115, 101]⟩))], type := 92, pos := "construct.go:10", after := #[], guard := none }) (v := .agg #[.int .i64 0, .string ⟨#[99, 97, 115, 101]⟩]) (by kernel_rfl) (by kernel_rfl) (by kernel_rfl) (by kernel_rfl) (fun c a w h => h) (.inl ⟨by kernel_rfl, fun w' => by kernel_rfl⟩) ?_
 refine wpAny_ready (rs := [0]) (by kernel_rfl) (by simp) ?_
 refine AllReady.cons (o := _) rfl (fun K hK => ?_) AllReady.nil
 rw [if_pos (by kernel_rfl)]
 refine mm_step (d := some 1) rfl rfl (hK _ _ ?_)
 refine ins_all (m := w.drew.heap.size) (w0 := w) (Nat.le_refl _) rfl rfl rfl rfl rfl rfl rfl rfl (by simp [Act.put]) (fun w' hM hB hm => ?_) _ false false false false false false false _ [] (by simp [nbb]) (by simp) (by simp) (by simp) (by simp) (by simp) (by simp) (by simp) (by simp) ⟨0, of_decide_eq_true (by kernel_rfl), World.ownsMap_made _ _ _ _⟩ ((Below.refl _ _).drew.alloc (Nat.le_refl _) _)
 go_wp2_with fail
 go_ret
 exact ⟨_, rfl, Nat.le_refl _, hm, hM, ⟨hB⟩⟩
end Sy
end
section
open Go.RowKit Tx
namespace Sy
open Lx (Tok tv tvs tvs_at Qt pan Rt TokE tokens_any)
open Wx (Pt LV Nw parts)
theorem assertErrno (n : Int) (w : World) : (Instr.typeAssert (.iface 32 (.int .i64 n)) 20 32 false).run Tryz.prog w = .ok (.int .i64 n) w := by kernel_rfl
theorem val_step {P : Program} {Q : Exit → Act → World → Prop} {o : Oper} {a : Act} {w w' : World} {v : Value} {d : Option Tmp} {K : Act → World → Prop} (hd : o.dst = d) (hr : (execOp a.eval o).run P w = .ok (.value v) w') (hK : K (a.put d v) w') : Oper.wp P o a w K Q := by
 unfold Oper.wp
 rw [hr, Oper.upon_value, hd]
 exact hK
theorem skip_step {P : Program} {Q : Exit → Act → World → Prop} {o : Oper} {a : Act} {w w' : World} {K : Act → World → Prop} (hd : o.dst = none) (hr : (execOp a.eval o).run P w = .ok .skip w') (hK : K a w') : Oper.wp P o a w K Q := by
 unfold Oper.wp
 rw [hr, Oper.upon_skip, hd]
 exact hK
theorem storeInt {w : World} {q : Nat} {u : Value} {n : Int} (hq : w.cell? ⟨q, 0, none⟩ = some u) (fq : w.frozen? ⟨q, 0, none⟩ = false) : (Instr.storeAt 32 (.pointer (some ⟨q, 0, none⟩)) (.int .i64 n)).run Tryz.prog w = .ok () (w.setCell ⟨q, 0, none⟩ (.int .i64 n)) := by
 simp [go_sem, hq, fq]
theorem ex_ta {P : Program} {ev : Operand → Value} {o : Oper} {x : Operand} {T S : TypeId} {c : Bool} {u v : Value} {w : World} (ho : o.op = .typeAssert x T S c) (hx : ev x = u) (h : (Instr.typeAssert u T S c).run P w = .ok v w) : (execOp ev o).run P w = .ok (.value v) w := by
 simp [execOp, ho, hx, h, Result.andThen]
def cops1 : Array Oper := #[{ dst := some 6, op := .build 31 #[], type := 31, pos := "syntax.go:18", after := #[], guard := none },
 { dst := some 7, op := .move (.tmp 2), type := 20, pos := "syntax.go:18", after := #[], guard := none },
 { dst := some 8, op := .typeAssert (.tmp 7) 20 32 false, type := 32, pos := "syntax.go:18", after := #[{ on := 1, ground := .data }], guard := none },
 { dst := none, op := .store 31 (.tmp 0) (.tmp 6), type := 0, pos := "syntax.go:18", after := #[{ on := 0, ground := .data }, { on := 0, ground := .phase }, { on := 1, ground := .textOnly .lateStores }, { on := 2, ground := .textOnly .lateStoresUnsure }], guard := none },
 { dst := none, op := .store 32 (.tmp 1) (.tmp 8), type := 0, pos := "syntax.go:18", after := #[{ on := 2, ground := .data }, { on := 3, ground := .chain }, { on := 0, ground := .phase }, { on := 1, ground := .phase }, { on := 2, ground := .phase }, { on := 3, ground := .phase }], guard := none }]
set_option maxRecDepth 100000 in
theorem catch_region {Q : Exit → Act → World → Prop} {id : Nat} {a : Act} {w : World} {p q : Nat} {n : Int} {old : Array Value} {u : Value} (hQ : ∀ (d : Option Nat) (x : Value) (c : List PanicEntry) (a : Act) (w : World), Q (.panic c) (a.put d x) w → Q (.panic c) a w)
   (hpq : p ≠ q) (hs : a.tmps.size = 9) (h0 : a.eval (.tmp 0) = .pointer (some ⟨p, 0, none⟩)) (h1 : a.eval (.tmp 1) = .pointer (some ⟨q, 0, none⟩)) (h2 : a.eval (.tmp 2) = .iface 32 (.int .i64 n))
   (hp : w.heap[p]? = some (.cells old 31 (0, 0))) (h8 : old.size = 8) (hq : w.heap[q]? = some (.cells #[u] 32 (0, 0)))
   (hgo : ∀ a', a'.defers = a.defers → Q .normal a' ((w.drew.setRow p #[.int .i64 0, .bool false, .string ⟨#[]⟩, .slice none 0 0, .slice none 0 0, .slice none 0 0, .slice none 0 0, .slice none 0 0]).setCell ⟨q, 0, none⟩ (.int .i64 n))) :
   (Code.region id cops1 true).wp Tryz.prog Q a w := by
 refine wp_region_any (by kernel_rfl) ?_
 change wpAny _ .any cops1 Q _ _ a w.drew
 have hp' : w.drew.heap[p]? = some (.cells old 31 (0, 0)) := hp
 have hq' : (w.drew.setRow p #[.int .i64 0, .bool false, .string ⟨#[]⟩, .slice none 0 0, .slice none 0 0, .slice none 0 0, .slice none 0 0, .slice none 0 0]).heap[q]? = some (.cells #[u] 32 (0, 0)) := (setRow_other _ _ q _ (Ne.symm hpq)).trans hq
 have hst := storeNode hp' h8 (cs := #[.int .i64 0, .bool false, .string ⟨#[]⟩, .slice none 0 0, .slice none 0 0, .slice none 0 0, .slice none 0 0, .slice none 0 0]) rfl (all_node _ _ _ _ _ _ _ _ _ _ _ _ _ _ _ _ _ _)
 have hsi := storeInt (n := n) (cell_of_row _ _ 0 _ _ _ hq') (frozen_of_row _ _ 0 _ _ hq')
 have e8 : ∀ (A : Act) (v : Value), A.tmps.size = 9 → (A.put (some 8) v).eval (.tmp 8) = v := fun A v h => App.ev_same (by omega)
 refine wpAny_take (i := 0) (oi := _) (v := .agg #[.int .i64 0, .bool false, .string ⟨#[]⟩, .slice none 0 0, .slice none 0 0, .slice none 0 0, .slice none 0 0, .slice none 0 0]) rfl (by kernel_rfl) (by kernel_rfl) (by kernel_rfl) (fun c a w h => hQ _ _ c a w h) (.inl ⟨by kernel_rfl, fun w' => by kernel_rfl⟩) ?_
 refine wpAny_take (i := 1) (oi := _) (v := .iface 32 (.int .i64 n)) rfl (by kernel_rfl) (by kernel_rfl) (by kernel_rfl) (fun c a w h => hQ _ _ c a w h) (.inl ⟨by kernel_rfl, fun w' => App.ex_mv rfl ((App.ev_other (by decide)).trans h2)⟩) ?_
 refine wpAny_take (i := 2) (oi := _) (v := .int .i64 n) rfl (by kernel_rfl) (by kernel_rfl) (by kernel_rfl) (fun c a w h => hQ _ _ c a w h) (.inl ⟨by kernel_rfl, fun w' => ?_⟩) ?_
 · exact ex_ta rfl ((App.ev_same (by rw [App.put_size]; omega))) (assertErrno _ _)
 refine wpAny_ready (rs := [3]) (by kernel_rfl) (by simp) ?_
 refine AllReady.cons (o := _) rfl (fun K hK => ?_) AllReady.nil
 rw [if_pos (by kernel_rfl)]
 refine skip_step (w' := w.drew.setRow p #[.int .i64 0, .bool false, .string ⟨#[]⟩, .slice none 0 0, .slice none 0 0, .slice none 0 0, .slice none 0 0, .slice none 0 0]) rfl ?_ (hK _ _ ?_)
 · exact App.ex_st (u := .pointer (some ⟨p, 0, none⟩)) (v := .agg #[.int .i64 0, .bool false, .string ⟨#[]⟩, .slice none 0 0, .slice none 0 0, .slice none 0 0, .slice none 0 0, .slice none 0 0]) rfl ((App.ev_other (by decide)).trans ((App.ev_other (by decide)).trans ((App.ev_other (by decide)).trans h0))) ((App.ev_other (by decide)).trans ((App.ev_other (by decide)).trans (App.ev_same (by omega)))) hst
 refine wpAny_ready (rs := [4]) (by kernel_rfl) (by simp) ?_
 refine AllReady.cons (o := _) rfl (fun K2 hK2 => ?_) AllReady.nil
 rw [if_pos (by kernel_rfl)]
 refine skip_step (w' := (w.drew.setRow p #[.int .i64 0, .bool false, .string ⟨#[]⟩, .slice none 0 0, .slice none 0 0, .slice none 0 0, .slice none 0 0, .slice none 0 0]).setCell ⟨q, 0, none⟩ (.int .i64 n)) rfl ?_ (hK2 _ _ ?_)
 · exact App.ex_st (u := .pointer (some ⟨q, 0, none⟩)) (v := .int .i64 n) rfl ((App.ev_other (by decide)).trans ((App.ev_other (by decide)).trans ((App.ev_other (by decide)).trans h1))) (App.ev_same (by simp only [App.put_size]; omega)) hsi
 exact wpAny_done (by kernel_rfl) (hgo _ (by simp only [App.put_defers])) _
set_option maxRecDepth 100000 in
theorem catch_bad (p q : Nat) (n : Int) (w : World) (old : Array Value) (u : Value) (hpq : p ≠ q) (hp : w.heap[p]? = some (.cells old 31 (0, 0))) (h8 : old.size = 8) (hq : w.heap[q]? = some (.cells #[u] 32 (0, 0))) :
   CallsD Tryz.prog 23 #[.pointer (some ⟨p, 0, none⟩), .pointer (some ⟨q, 0, none⟩)] (.panicking (pan n)) w fun e u' w' =>
     e = .returned (.tuple #[]) ∧ u' = .panicking [{ v := .iface 32 (.int .i64 n), recovered := true }] ∧ w' = (w.drew.setRow p #[.int .i64 0, .bool false, .string ⟨#[]⟩, .slice none 0 0, .slice none 0 0, .slice none 0 0, .slice none 0 0, .slice none 0 0]).setCell ⟨q, 0, none⟩ (.int .i64 n) := by
 refine callsD_of_wpS Tryz.func23 rfl fun c₀ cs hu => ?_
 apply wpS_seq
 apply wpS_region
 simp [wpOpsS, go_sem, recoverD, hu, Tryz.ntmps23, Exit.thenS, pan]
 apply wpS_seq
 apply wpS_region
 simp [wpOpsS, go_sem, Exit.thenS]
 refine wpS_cond (t := true) (by simp [Act.eval, Array.replicate]) ?_
 simp only [if_true]
 refine wpS_of_wp (catch_region (p := p) (q := q) (n := n) (fun d _ _ _ _ h => by cases d <;> exact h) hpq rfl rfl rfl rfl hp h8 hq fun a' ha' => ?_)
 simp [bodyPostS, results, Tryz.results23, ha', go_sem]
theorem catch_idle (p q : Addr) (w : World) :
   CallsD Tryz.prog 23 #[.pointer (some p), .pointer (some q)] .returning w fun e u' w' => e = .returned (.tuple #[]) ∧ u' = .returning ∧ w' = w := by
 refine callsD_of_wpS Tryz.func23 rfl fun c₀ cs hu => ?_
 apply wpS_seq
 apply wpS_region
 simp [wpOpsS, go_sem, recoverD, hu, Tryz.ntmps23, Exit.thenS]
 apply wpS_seq
 apply wpS_region
 simp [wpOpsS, go_sem, Exit.thenS]
 refine wpS_cond (t := false) (by simp [Act.eval, Array.replicate]) ?_
 simp only [Bool.false_eq_true, if_false]
 refine wpS_of_wp (wp_skip ?_)
 cases c₀
 simp_all [bodyPostS, results, Tryz.results23]
end Sy
end
end Go.Proofs.YtahjonfmhejoeaaGreatDoor
