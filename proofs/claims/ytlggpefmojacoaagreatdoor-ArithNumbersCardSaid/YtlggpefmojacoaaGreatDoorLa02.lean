/-
  Parts of the proof, merged.
-/
import Derived.RangeFuncBound
import Derived.RangeFuncCalls
import Derived.RangeFuncLeaves
import Derived.RangeFuncNested
import Derived.Test.YtlggpefmojacoaaGreatDoorLa01
namespace Go.Proofs.YtlggpefmojacoaaGreatDoor
section
open Go.RowKit Tx
namespace Rp
variable {P : Program}
def At (f : FuncId) (P : Program) (c : Code) (Q : Exit → Act → World → Prop) (a : Act) (w : World) : Prop :=
 ∀ (b : Frame) (k : List Item) (cs : List Frame), b.roundOf = none → b.fn = f →
   ∃ e a' w', Q e a' w' ∧ ArrivesIn (Machine.fenced P Fence.wide) P (lone (b.atR a (.code c :: k)) cs w) b k cs e a' w'
section
variable {f : FuncId} {Q : Exit → Act → World → Prop} {a : Act} {w : World}
theorem at_of {c : Code} (h : c.wp P Q a w) : At f P c Q a w := fun b k cs hro _ => wpIn_wide (n := 0).2 h b k cs hro trivial (room_wide _)
theorem at_seq {x y : Code} (h : At f P x (Exit.then (At f P y Q) Q) a w) : At f P (Code.seq x y) Q a w := by
 intro b k cs hro hb
 have h0 : (lone (b.atR a (.code (.seq x y) :: k)) cs w).fenced P Fence.wide := fenced_wide _ _
 obtain ⟨e, a₁, w₁, hq, harr⟩ := h b (.code y :: k) cs hro hb
 cases e with
 | normal =>
   obtain ⟨e₂, a₂, w₂, hq₂, harr₂⟩ := hq b k cs hro hb
   exact ⟨e₂, a₂, w₂, hq₂, .of_steps (.head h0 stepR_seq harr) harr₂⟩
 | exit id => exact ⟨_, a₁, w₁, hq, .of_steps (.one h0 stepR_seq) (.pass (x := .code y) rfl (fun _ _ => .inl (by simp)) harr)⟩
 | goto l => exact ⟨_, a₁, w₁, hq, .of_steps (.one h0 stepR_seq) (.pass (x := .code y) rfl (fun _ _ => .inl (by simp)) harr)⟩
 | ret => exact ⟨_, a₁, w₁, hq, .of_steps (.one h0 stepR_seq) (.pass (x := .code y) rfl (fun _ _ => .inl (by simp)) harr)⟩
 | panic ch => exact ⟨_, a₁, w₁, hq, .of_steps (.one h0 stepR_seq) (.pass (x := .code y) rfl (fun _ _ => .inl (by simp)) harr)⟩
 | outgrown => exact ⟨_, a₁, w₁, hq, .of_steps (.one h0 stepR_seq) (.pass (x := .code y) rfl (fun _ _ => .inl (by simp)) harr)⟩
theorem at_seq_k {x y : Code} (h : ∀ Q' : Exit → Act → World → Prop, (∀ a w, At f P y Q a w → Q' .normal a w) → (∀ c a w, Q (.panic c) a w → Q' (.panic c) a w) → x.wp P Q' a w) : At f P (Code.seq x y) Q a w :=
 at_seq (at_of (h (Exit.then (At f P y Q) Q) (fun _ _ h => h) (fun _ _ _ h => h)))
theorem at_block {id : Nat} {c : Code} (h : At f P c (Exit.inBlock id Q) a w) : At f P (Code.block id c) Q a w := by
 intro b k cs hro hb
 have h0 : (lone (b.atR a (.code (.block id c) :: k)) cs w).fenced P Fence.wide := fenced_wide _ _
 obtain ⟨e, a₁, w₁, hq, harr⟩ := h b (.inBlock id :: k) cs hro hb
 cases e with
 | normal => exact ⟨.normal, a₁, w₁, hq, .head h0 stepR_block (StepsIn.trans harr (.one (fenced_wide _ _) stepR_inBlock))⟩
 | exit id' =>
   by_cases hid : id' = id
   · simp only [Exit.inBlock, hid, if_true] at hq
     exact ⟨.normal, a₁, w₁, hq, .head h0 stepR_block (harr.1 k (by simp [exitTo, hid]))⟩
   · simp only [Exit.inBlock, hid, if_false] at hq
     have this : (id == id') = false := by simp; exact fun h => hid h.symm
     have hx : exitTo id' (.inBlock id :: k) = exitTo id' k := by simp [exitTo, this]
     exact ⟨.exit id', a₁, w₁, hq, fun k' hk => .head h0 stepR_block (harr.1 k' (by rw [hx]; exact hk)),
       fun hr' hk => let ⟨k₁, h1, h2⟩ := harr.2 hr' (by rw [hx]; exact hk); ⟨k₁, h1, .head h0 stepR_block h2⟩⟩
 | goto l =>
   have hx : gotoIn l (.inBlock id :: k) = gotoIn l k := by simp [gotoIn]
   exact ⟨_, a₁, w₁, hq, fun k' hk => .head h0 stepR_block (harr.1 k' (by rw [hx]; exact hk)),
     fun hr' hk => let ⟨k₁, h1, h2⟩ := harr.2 hr' (by rw [hx]; exact hk); ⟨k₁, h1, .head h0 stepR_block h2⟩⟩
 | ret => exact ⟨_, a₁, w₁, hq, .of_steps (.one h0 stepR_block) harr⟩
 | panic ch => exact ⟨_, a₁, w₁, hq, .of_steps (.one h0 stepR_block) harr⟩
 | outgrown => exact ⟨_, a₁, w₁, hq, .of_steps (.one h0 stepR_block) harr⟩
theorem calls_of {fn : Func} {c : Code} {args : Array Value} {R : Ending → World → Prop} (hf : P.funcs[f]? = some fn) (hb : fn.body = some c)
   (h : At f P c (bodyPostM Fence.wide 0 P fn R) { tmps := args ++ Array.replicate (fn.ntmps - args.size) undef, defers := [] } w) : Calls P f args w R := by
 refine (callsIn_wide (n := 0)).1 ⟨trivial, fun cs hr => ?_⟩
 let b : Frame := { (default : Frame) with fn := f, kind := .normal, roundOf := none }
 have henter : Frame.enter P f args .normal = b.atR { tmps := args ++ Array.replicate (fn.ntmps - args.size) undef, defers := [] } [.code c] := by
   simp [Frame.enter, Frame.atR, hf, hb, b]
 obtain ⟨e, a', w', hq, harr⟩ := h b [] cs rfl rfl
 rw [← henter] at harr
 cases e with
 | normal =>
   obtain ⟨e', w'', fr', hR, hs, hfn, hl⟩ := leaves_stepsInM a'.defers .returning w' { b.atR a' [] with mode := .returning } cs rfl rfl rfl hf rfl trivial hr hq
   exact ⟨e', w'', fr', hR, ComesIn.of_steps (StepsIn.trans harr (.one (fenced_wide _ _) (stepR_end rfl))) hs, hfn, hl⟩
 | ret =>
   obtain ⟨todo, hs₀⟩ := harr.1 rfl
   obtain ⟨e', w'', fr', hR, hs, hfn, hl⟩ := leaves_stepsInM a'.defers .returning w' { b.atR a' todo with mode := .returning } cs rfl rfl rfl hf rfl trivial hr hq
   exact ⟨e', w'', fr', hR, ComesIn.of_steps hs₀ hs, hfn, hl⟩
 | panic chain =>
   obtain ⟨todo, hs₀⟩ := harr
   obtain ⟨e', w'', fr', hR, hs, hfn, hl⟩ := leaves_stepsInM a'.defers (.panicking chain) w' { b.atR a' todo with mode := .panicking chain } cs rfl rfl rfl hf rfl trivial hr hq
   exact ⟨e', w'', fr', hR, ComesIn.of_steps hs₀ hs, hfn, hl⟩
 | exit id => exact hq.elim
 | goto l => exact hq.elim
 | outgrown => exact ⟨.outgrown, w', b, hq, harr.resolve_left (by simp [b]), rfl, trivial⟩
end
theorem enter_of {f : FuncId} {fn : Func} {c : Code} (hf : P.funcs[f]? = some fn) (hname : (fn.name == "runtime.NumGoroutine") = false) (hb : fn.body = some c) (args : Array Value) (w : World) : (callFunc f args).run P w = .ok (.enter f args) w := by
 have h1 : fn.name ≠ "runtime.NumGoroutine" := by simpa using hname
 simp [callFunc, hf, h1, hb]
def roundPost (P : Program) (l : Nat) (R : Ending → World → Prop) : Exit → Act → World → Prop
 | .normal, _, w => ∃ v w', (Instr.endRound l none).run P w = .ok v w' ∧ R (.returned v) w'
 | .panic chain, a, w => a.defers = [] ∧ R (.panicked chain) w
 | _, _, _ => False
theorem round_of {n l : Nat} {f : FuncId} {fn : Func} {tmps : Array Value} {assign body : Code} {w : World} {R : Ending → World → Prop} (hf : P.funcs[f]? = some fn)
   (h : assign.wpIn (Fence.wide.inRound l) n P (Exit.then (fun a₁ w₁ => ∃ w₂, (Instr.beginRound l).run P w₁ = .ok () w₂ ∧ body.wpIn (Fence.wide.inRound l) n P (roundPost P l R) a₁ w₂) (fun _ _ _ => False))
     { tmps := tmps, defers := [] } w) :
   RoundIn Fence.wide n P l f tmps assign body w R := by
 refine ⟨trivial, fun c cs hr => ?_⟩
 let b : Frame := { (default : Frame) with fn := f, kind := .normal, roundOf := some l }
 have hb0 : Frame.round l f tmps assign body .normal = b.atR { tmps := tmps, defers := [] } [.code assign, .beginRound, .code body] := by
   simp [Frame.round, Frame.atR, b]
 have hr' : (Fence.wide.inRound l).room ((c :: cs).length + 1 + n) := hr
 obtain ⟨e, a₁, w₁, hq, harr⟩ := h b [.beginRound, .code body] (c :: cs) rfl trivial hr'
 rw [← hb0] at harr
 cases e with
 | normal =>
   obtain ⟨w₂, hbr, hbody⟩ := hq
   have s1 : StepsIn (Machine.fenced P Fence.wide) P (lone (b.atR a₁ [.beginRound, .code body]) (c :: cs) w₁) (lone (b.atR a₁ [.code body]) (c :: cs) w₂) :=
     .one (fenced_wide _ _) (stepR_beginRound rfl hbr)
   obtain ⟨e₂, a₂, w₃, hq₂, harr₂⟩ := hbody b [] (c :: cs) rfl trivial hr'
   cases e₂ with
   | normal =>
     obtain ⟨v, w₄, hend, hR⟩ := hq₂
     exact ⟨.returned v, w₄, hR, (StepsIn.trans harr s1).trans (StepsIn.trans harr₂ (.one (fenced_wide _ _) (stepR_round_end rfl rfl hend)))⟩
   | panic chain =>
     obtain ⟨hd, hR⟩ := hq₂
     obtain ⟨todo, hs⟩ := harr₂
     exact ⟨.panicked chain, w₃, hR, (StepsIn.trans harr s1).trans (StepsIn.trans hs (.one (fenced_wide _ _) (step_leave_panicked ⟨rfl, hd, fn, hf⟩)))⟩
   | ret => exact hq₂.elim
   | exit id => exact hq₂.elim
   | goto t => exact hq₂.elim
   | outgrown => exact hq₂.elim
 | exit id => exact hq.elim
 | goto t => exact hq.elim
 | ret => exact hq.elim
 | panic chain => exact hq.elim
 | outgrown => exact hq.elim
def Ends (z : Nat) (I : World → Prop) (Ip : List PanicEntry → World → Prop) (W : World) : Exit → Act → World → Prop
 | .normal, _, W' => W.heap.size ≤ W'.heap.size ∧ (∀ k, z ≤ k → k < W.heap.size → W'.heap[k]? = W.heap[k]?) ∧ I W'
 | .panic ch, a, W' => a.defers = [] ∧ W.heap.size ≤ W'.heap.size ∧ (∀ k, z ≤ k → k < W.heap.size → W'.heap[k]? = W.heap[k]?) ∧ Ip ch W'
 | _, _, _ => False
structure Cs (z : Nat) (A B : World) : Prop where
 os : B.os = A.os
 tape : B.tape = A.tape
 output : B.output = A.output
 size : A.heap.size ≤ B.heap.size
 low : ∀ k, k < z → k < A.heap.size → B.heap[k]? = A.heap[k]?
 row : ∀ (k : Nat) (cs : Array Value) (t : TypeId) (q : Nat × Nat), A.heap[k]? = some (Obj.cells cs t q) → B.heap[k]? = some (Obj.cells cs t q)
theorem Cs.below {z : Nat} {A B : World} (h : Below A.heap.size A B) : Cs z A B :=
 ⟨h.os, h.tape, h.output, h.size, fun k _ hk => h.block k hk, fun k _ _ _ hk => (h.block k (Array.getElem?_eq_some_iff.1 hk).1).trans hk⟩
theorem Cs.put {z k : Nat} {W : World} {r : Loop} (o : Obj) (hl : W.heap[k]? = some (.loop r)) (hz : z ≤ k) : Cs z W (W.putObj k o) :=
 ⟨rfl, rfl, rfl, by simp, fun i hi _ => World.putObj_heap_other (by omega), fun i cs t q hi => (World.putObj_heap_other (by rintro rfl; rw [hl] at hi; cases hi)).trans hi⟩
theorem Cs.putd {z k : Nat} {W : World} {r : Option (List Deferred)} (o : Obj) (hl : W.heap[k]? = some (.deferred r)) (hz : z ≤ k) : Cs z W (W.putObj k o) :=
 ⟨rfl, rfl, rfl, by simp, fun i hi _ => World.putObj_heap_other (by omega), fun i cs t q hi => (World.putObj_heap_other (by rintro rfl; rw [hl] at hi; cases hi)).trans hi⟩
theorem Cs.cell {z : Nat} {A B : World} (h : Cs z A B) {a : Addr} {v : Value} (hv : A.cell? a = some v) : B.cell? a = some v := by
 unfold World.cell? at hv
 split at hv
 · rename_i cs t q hr
   have := h.row _ _ _ _ hr
   unfold World.cell?
   rw [this]
   exact hv
 · cases hv
def Seq (P : Program) (g : FuncId) (lb : Array Value) (N : Nat) (enc : Nat → Array Value) (C : World → Prop) : Prop :=
 ∀ (n l : Nat) (J : Nat → World → Prop) (Jp : List PanicEntry → World → Prop) (W : World), (∀ i W', J i W' → C W') → (∀ i A B, J i A → Below A.heap.size A B → J i B) →
   (∀ i W1, J i W1 → i < N → YieldAt Fence.wide n P l (enc i) W1 fun e W' => (e = .returned (.bool true) ∧ J (i + 1) W') ∨ (∃ ch, e = .panicked ch ∧ Jp ch W')) →
   J 0 W → CallsIn Fence.wide (n + 1) P g (#[.func (.yield l) #[] #[]] ++ lb) W fun e W' => ((∃ v, e = .returned v) ∧ J N W') ∨ (∃ ch, e = .panicked ch ∧ Jp ch W')
theorem at_range {f gf : FuncId} {fnn : Func} {g : Operand} {ps : Array Tmp} {assign body : Code} {Q : Exit → Act → World → Prop} {a : Act} {w : World} {lb : Array Value} {N : Nat} {enc : Nat → Array Value} {C : World → Prop}
   (hf : P.funcs[f]? = some fnn) (hg : a.eval g = .func (.func gf) #[] lb) (he : ∀ args w, (callFunc gf args).run P w = .ok (.enter gf args) w)
   (hs : Seq P gf lb N enc C) (hp : ∀ i, ps.size = (enc i).size)
   (I : Nat → World → Prop) (Ip : List PanicEntry → World → Prop) (hC : ∀ i W, I i W → C W) (hI : ∀ i A B, I i A → Cs w.heap.size A B → I i B) (h0 : I 0 w) (a1 : Nat → Act)
   (ha : ∀ (l i : Nat) (W : World) (K : Act → World → Prop), K (a1 i) W → assign.wpIn (Fence.wide.inRound l) 0 P (Exit.then K (fun _ _ _ => False)) { tmps := (ps.zip (enc i)).foldl (fun t (p, v) => t.setIfInBounds p v) a.tmps, defers := [] } W)
   (hb : ∀ (l i : Nat) (W : World), I i W → i < N → w.heap.size ≤ W.heap.size → body.wpIn (Fence.wide.inRound l) 0 P (Ends w.heap.size (I (i + 1)) Ip W) (a1 i) W)
   (hd : ∀ (D : Nat) (W : World), w.heap.size ≤ D → I N W → W.heap[D]? = some (.deferred (some [])) → Q .normal { a with defers := { target := .collected D, args := #[] } :: a.defers } W)
   (hx : ∀ (D : Nat) (ch : List PanicEntry) (W : World), w.heap.size ≤ D → Ip ch W → W.heap[D]? = some (.deferred (some [])) → Q (.panic ch) { a with defers := { target := .collected D, args := #[] } :: a.defers } W) :
   At f P (Code.rangeFunc g ps assign body) Q a w := by
 intro b k cs hro hbf
 obtain ⟨d, hdd⟩ : ∃ d, d = w.heap.size := ⟨_, rfl⟩
 obtain ⟨rc, hrc⟩ : ∃ rc : LoopState → Option Code → Loop, rc = fun st pe => { state := st, pending := pe, fn := f, tmps := a.tmps, params := ps, assign, body, defers := d } := ⟨_, rfl⟩
 obtain ⟨U, hU⟩ : ∃ U, U = (w.alloc (.deferred (some []))).alloc (.loop (rc .ready none)) := ⟨_, rfl⟩
 have hUs : U.heap.size = d + 2 := by rw [hU, hdd]; simp
 have hUb : Below d w U := by
   rw [hU, hdd]
   exact ((Below.refl w.heap.size w).alloc (Nat.le_refl _) _).alloc (by simp) _
 have hUl : U.heap[d + 1]? = some (.loop (rc .ready none)) := by
   have := World.alloc_heap_new (w.alloc (.deferred (some []))) (.loop (rc .ready none))
   rw [World.size_alloc] at this
   rw [hU, hdd]; exact this
 have hUd : U.heap[d]? = some (.deferred (some [])) := by
   rw [hU, hdd]
   exact (Below.heap_alloc _ _ _ (by simp)).trans (World.alloc_heap_new w _)
 have hent : (Instr.enterLoop f a.tmps ps assign body none).run P w = .ok (d + 1, [{ target := .collected d, args := #[] }]) U := by
   rw [hU, hrc, hdd]; exact run_enterLoop_outer _ _ _ _ _
 have hlow : ∀ {i : Nat} {W : World} {r : Loop} (k : Nat) (o : Obj), I i W → W.heap[k]? = some (.loop r) → d ≤ k → I i (W.putObj k o) := fun k o h hl hk => hI _ _ _ h (Cs.put o hl (by omega))
 have hres : (resolve a.eval (rangeCall g (d + 1)) 0).run P U = .ok { target := .fn (.func gf) lb, args := #[.func (.yield (d + 1)) #[] #[]] } U := by
   simp only [resolve, hg]; simp [go_sem]
 have hinv : (invoke (.fn (.func gf) lb) #[.func (.yield (d + 1)) #[] #[]]).run P U = .ok (.enter gf (#[.func (.yield (d + 1)) #[] #[]] ++ lb)) U := by
   simp [invoke, go_sem, he]
 -- what stands between two rounds
 obtain ⟨J, hJ⟩ : ∃ J : Nat → World → Prop, J = fun i W => I i W ∧ W.heap[d + 1]? = some (.loop (rc .ready none)) ∧ W.heap[d]? = some (.deferred (some [])) ∧ d + 1 < W.heap.size := ⟨_, rfl⟩
 obtain ⟨X, hX⟩ : ∃ X : List PanicEntry → World → Prop, X = fun ch W => Ip ch W ∧ W.heap[d]? = some (.deferred (some [])) := ⟨_, rfl⟩
 have hJl : ∀ i A B, J i A → Below A.heap.size A B → J i B := by
   rw [hJ]
   rintro i A B ⟨h1, h2, h3, h4⟩ hab
   exact ⟨hI _ _ _ h1 (Cs.below hab), (hab.block _ (by omega)).trans h2, (hab.block _ (by omega)).trans h3, Nat.lt_of_lt_of_le h4 hab.size⟩
 have hJ0 : J 0 U := by
   rw [hJ]
   exact ⟨hI _ _ _ h0 (Cs.below (by rw [← hdd]; exact hUb)), hUl, hUd, by omega⟩
 have hcall := hs 0 (d + 1) J X U (fun i W' h => by rw [hJ] at h; exact hC i W' h.1) hJl (by
   intro i W hW hN
   rw [hJ] at hW
   obtain ⟨hi, hl, hD, hsz⟩ := hW
   have hyl := run_yield (P := P) (args := enc i) hl (by rw [hrc]; exact (hp i).symm)
   rw [hrc] at hyl
   refine ⟨f, _, assign, body, hyl, round_of hf (ha _ i W _ ⟨_, run_beginRound hl (by rw [hrc]), ?_⟩)⟩
   obtain ⟨V, hV⟩ : ∃ V, V = W.putObj (d + 1) (.loop { rc .ready none with state := .busy }) := ⟨_, rfl⟩
   rw [← hV]
   have hVl : V.heap[d + 1]? = some (.loop { rc .ready none with state := .busy }) := by rw [hV]; exact World.putObj_heap_same hsz
   have hVd : V.heap[d]? = some (.deferred (some [])) := by rw [hV]; exact (World.putObj_heap_other (by omega)).trans hD
   have hVs : V.heap.size = W.heap.size := by rw [hV]; simp
   have hVi : I i V := by rw [hV]; exact hlow (d + 1) _ hi hl (by omega)
   refine wpIn_mono (hb _ i V hVi hN (by omega)) ?_
   intro e a3 Z hZ
   cases e with
   | normal =>
     obtain ⟨hzs, hzb, hiz⟩ := hZ
     have hz : Z.heap[d + 1]? = some (.loop { rc .ready none with state := .busy }) := (hzb _ (by omega) (by omega)).trans hVl
     have hz2 : Z.heap[d]? = some (.deferred (some [])) := (hzb _ (by omega) (by omega)).trans hVd
     have hend := run_endRound (P := P) none hz
     rw [hrc] at hend
     refine ⟨_, _, hend, .inl ⟨rfl, ?_⟩⟩
     rw [hJ]
     exact ⟨hlow (d + 1) _ hiz hz (by omega), by rw [hrc]; exact World.putObj_heap_same (by omega), (World.putObj_heap_other (by omega)).trans hz2, by simp; omega⟩
   | panic ch =>
     obtain ⟨hda, hzs, hzb, hiz⟩ := hZ
     refine ⟨hda, .inr ⟨ch, rfl, ?_⟩⟩
     rw [hX]
     exact ⟨hiz, (hzb _ (by omega) (by omega)).trans hVd⟩
   | ret => exact hZ.elim
   | exit id => exact hZ.elim
   | goto t => exact hZ.elim
   | outgrown => exact hZ.elim) hJ0
 have henter := stepR_rangeFunc (P := P) (b := b) (a := a) (k := k) (cs := cs) (w := w) (by rw [hro, hbf]; exact hent) hres hinv
 obtain ⟨e, w₃, fr, hR, hsteps, hfn, hleave⟩ := hcall.2 (b.atR { a with defers := [{ target := .collected d, args := #[] }] ++ a.defers } (.inRangeFunc (d + 1) :: k) :: cs) (room_wide _)
 rcases hR with ⟨⟨v, rfl⟩, hz⟩ | ⟨ch, rfl, hz⟩
 · rw [hJ] at hz
   obtain ⟨h1, h2, h3, h4⟩ := hz
   have hend := run_endLoop (P := P) h2 (by rw [hrc]; simp)
   rw [hrc] at hend
   have key : ∀ Z4, (Instr.endLoop (d + 1)).run P w₃ = .ok none Z4 → ArrivesIn (Machine.fenced P Fence.wide) P (lone (b.atR a (.code (.rangeFunc g ps assign body) :: k)) cs w) b k cs .normal { a with defers := { target := .collected d, args := #[] } :: a.defers } Z4 := fun Z4 hend => by
     refine .head (fenced_wide _ _) henter (StepsIn.trans hsteps (.head (fenced_wide _ _) ?_ (.one (fenced_wide _ _) (stepR_endRangeFunc (jump := none) hend))))
     rw [← finish_atR_inRangeFunc (d + 1) v]; exact step_leave_returned hleave
   exact ⟨.normal, _, _, hd d _ (by omega) (hlow (d + 1) _ h1 h2 (by omega)) ((World.putObj_heap_other (by omega)).trans h3), key _ hend⟩
 · rw [hX] at hz
   refine ⟨.panic ch, _, w₃, hx d ch w₃ (by omega) hz.1 hz.2, .inRangeFunc (d + 1) :: k, .head (fenced_wide _ _) henter (StepsIn.trans hsteps (.one (fenced_wide _ _) ?_))⟩
   rw [← Frame.raise_atR]; exact step_leave_panicked hleave
end Rp
end
end Go.Proofs.YtlggpefmojacoaaGreatDoor
