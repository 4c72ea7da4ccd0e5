/-
  A range over a function that keeps cells of its own: the function's contract, and the caller's law. Nothing of the program stands here.
-/
import Derived.Test.YtkifnabkoidhcaaTxt
import Derived.RangeFuncNested
import Derived.RangeFuncBound
import Derived.RangeFuncCalls
import Derived.RangeFuncLeaves
namespace Go.Proofs.Ytkifnabkoidhcaa
open Go.RowKit Tx
namespace Rg

/-- All that was there stands, but for the block r. -/
structure But (r : Nat) (W W' : World) : Prop where
  size : W.heap.size ≤ W'.heap.size
  block : ∀ k, k < W.heap.size → k ≠ r → W'.heap[k]? = W.heap[k]?
theorem But.refl (r : Nat) (W : World) : But r W W := ⟨Nat.le_refl _, fun _ _ _ => rfl⟩
theorem But.trans {r : Nat} {A B C : World} (h : But r A B) (k : But r B C) : But r A C :=
  ⟨Nat.le_trans h.size k.size, fun i hi hr => (k.block i (Nat.lt_of_lt_of_le hi h.size) hr).trans (h.block i hi hr)⟩
theorem But.below {r : Nat} {A B : World} (h : Below A.heap.size A B) : But r A B := ⟨h.size, fun k hk _ => h.block k hk⟩
theorem But.cell {r : Nat} {A B : World} (h : But r A B) (u : Value) : But r A (B.setCell ⟨r, 0, none⟩ u) :=
  ⟨by simpa [World.setCell] using h.size, fun k hk hr => (Below.heap_setCell B _ u k hr).trans (h.block k hk hr)⟩
/-- What lies low alone is spoken of. -/
def Low (b : Nat) (J : List Nat → World → Prop) : Prop := ∀ ys A B, J ys A → Below b A B → J ys B
/-- The function g (with lb captured) yields numbers one by one: all in S, or the first ones, in Sp, where a round has said so; it keeps cells of its own; of what was there a round that goes on turns the block r alone. -/
def Seq (F : Fence) (n : Nat) (P : Program) (g : Nat) (lb : Array Value) (r : Nat) (S Sp : List Nat → Prop) (N : Nat) (w : World) : Prop :=
  ∀ (l : Nat) (J Jx : List Nat → World → Prop) (W : World), Below w.heap.size w W → Low W.heap.size J → Low W.heap.size Jx →
    (∀ pre x W1, J pre W1 → pre.length < N → YieldAt F (n - 1) P l #[.int .i64 ((x : Nat) : Int)] W1 fun e W' =>
      (e = .returned (.bool true) ∧ J (pre ++ [x]) W' ∧ But r W1 W') ∨ (e = .returned (.bool false) ∧ Jx (pre ++ [x]) W')) →
    J [] W →
    CallsIn F n P g (#[.func (.yield l) #[] #[]] ++ lb) W fun e W' => (∃ v, e = .returned v) ∧ ((∃ xs, S xs ∧ J xs W') ∨ (∃ pre, Sp pre ∧ Jx pre W'))
/-- How a round's body may end. -/
def Ends (r : Nat) (I : List Nat → World → Prop) (Ix : Code → List Nat → World → Prop) (xs : List Nat) (W : World) : Exit → Act → World → Prop
  | .normal, _, W' => But r W W' ∧ I xs W'
  | .ret, _, W' => But r W W' ∧ Ix .ret xs W'
  | .exit id, _, W' => But r W W' ∧ Ix (.exit id) xs W'
  | _, _, _ => False
theorem put_low {b : Nat} {W : World} {k : Nat} (o : Obj) (hb : b ≤ k) : Below b W (W.putObj k o) :=
  ⟨rfl, rfl, rfl, by simp, fun i hi => World.putObj_heap_other (by omega)⟩
variable {F : Fence} {n : Nat} {P : Program}
/-- The statement. -/
theorem range_low {g : Operand} {ps : Array Tmp} {assign body : Code} {Q : Exit → Act → World → Prop} {a : Act} {w w0 : World} {gf r N : Nat} {lb : Array Value} {S Sp : List Nat → Prop}
    (hro : F.round = none) (hn : 1 ≤ n) (hg : a.eval g = .func (.func gf) #[] lb) (hF : F.fn gf) (he : ∀ args w, (callFunc gf args).run P w = .ok (.enter gf args) w)
    (hs : Seq F (n - 1) P gf lb r S Sp N w0) (hw : Below w0.heap.size w0 w) (hr : r < w.heap.size) (hp : ps.size = 1)
    (I : List Nat → World → Prop) (Ix : Code → List Nat → World → Prop) (hI : Low w.heap.size I) (hIx : ∀ c, Low w.heap.size (Ix c)) (h0 : I [] w) (a1 : Nat → Act)
    (ha : ∀ (l x : Nat) (W : World) (K : Act → World → Prop), K (a1 x) W → assign.wpIn (F.inRound l) (n - 1 - 1) P (Exit.then K (fun _ _ _ => False)) { tmps := (ps.zip #[.int .i64 (x : Int)]).foldl (fun t (p, v) => t.setIfInBounds p v) a.tmps, defers := [] } W)
    (hb : ∀ (l : Nat) (pre : List Nat) (x : Nat) (W : World), I pre W → pre.length < N → body.wpIn (F.inRound l) (n - 1 - 1) P (Ends r I Ix (pre ++ [x]) W) (a1 x) W)
    (hd : ∀ (D : Nat) (xs : List Nat) (W : World), w.heap.size ≤ D → S xs → I xs W → W.heap[D]? = some (.deferred (some [])) → Q .normal { a with defers := { target := .collected D, args := #[] } :: a.defers } W)
    (hx : ∀ (D : Nat) (c : Code) (pre : List Nat) (W : World), w.heap.size ≤ D → Sp pre → Ix c pre W → W.heap[D]? = some (.deferred (some [])) → c.wpIn F n P Q { a with defers := { target := .collected D, args := #[] } :: a.defers } W) :
    (Code.rangeFunc g ps assign body).wpIn F n P Q a w := by
  apply wpIn_rangeFunc
  intro fn hfn
  rw [hro]
  -- the record l, the block d of the rounds' deferred calls
  obtain ⟨d, hdd⟩ : ∃ d, d = w.heap.size := ⟨_, rfl⟩
  obtain ⟨rc, hrc⟩ : ∃ rc : LoopState → Option Code → Loop, rc = fun st pe => { state := st, pending := pe, fn, tmps := a.tmps, params := ps, assign, body, defers := d } := ⟨_, rfl⟩
  obtain ⟨U, hU⟩ : ∃ U, U = (w.alloc (.deferred (some []))).alloc (.loop (rc .ready none)) := ⟨_, rfl⟩
  have hUs : U.heap.size = d + 2 := by rw [hU, hdd]; simp
  have hUb : Below d w U := by
    rw [hU, hdd]
    exact ((Below.refl w.heap.size w).alloc (Nat.le_refl _) _).alloc (by simp) _
  have hUl : U.heap[d + 1]? = some (.loop (rc .ready none)) := by
    have := World.alloc_heap_new (w.alloc (.deferred (some []))) (.loop (rc .ready none))
    rw [World.size_alloc] at this
    rw [hU, hdd]; exact this
  have hUd : U.heap[d]? = some (.deferred (some [])) := by
    rw [hU, hdd]
    exact (Below.heap_alloc _ _ _ (by simp)).trans (World.alloc_heap_new w _)
  have hent : (Instr.enterLoop fn a.tmps ps assign body none).run P w = .ok (d + 1, [{ target := .collected d, args := #[] }]) U := by
    rw [hU, hrc, hdd]; exact run_enterLoop_outer _ _ _ _ _
  have hlow : ∀ {J : List Nat → World → Prop} {ys : List Nat} {W : World} (k : Nat) (o : Obj), Low w.heap.size J → J ys W → d ≤ k → J ys (W.putObj k o) := fun k o hJ h hk => hJ _ _ _ h (put_low o (by omega))
  refine ⟨d + 1, [{ target := .collected d, args := #[] }], U, { target := .fn (.func gf) lb, args := #[.func (.yield (d + 1)) #[] #[]] }, U, gf, #[.func (.yield (d + 1)) #[] #[]] ++ lb, U, hent, ?_, ?_, ?_, fun _ => hn, ?_⟩
  · simp only [resolve, hg]; simp [go_sem]
  · intro f hf; simp [Target.leads] at hf; exact hf ▸ hF
  · simp [invoke, go_sem, he]
  -- what stands between two rounds; what stands behind the last one
  obtain ⟨J, hJ⟩ : ∃ J : List Nat → World → Prop, J = fun ys W => I ys W ∧ W.heap[d + 1]? = some (.loop (rc .ready none)) ∧ W.heap[d]? = some (.deferred (some [])) ∧ d + 1 < W.heap.size := ⟨_, rfl⟩
  obtain ⟨X, hX⟩ : ∃ X : List Nat → World → Prop, X = fun ys W => ∃ c, Ix c ys W ∧ W.heap[d + 1]? = some (.loop (rc .done (some c))) ∧ W.heap[d]? = some (.deferred (some [])) ∧ d + 1 < W.heap.size := ⟨_, rfl⟩
  have hJl : Low U.heap.size J := by
    rw [hJ, hUs]
    rintro ys A B ⟨h1, h2, h3, h4⟩ hab
    exact ⟨hI _ _ _ h1 (hab.mono (by omega)), (hab.block _ (by omega)).trans h2, (hab.block _ (by omega)).trans h3, Nat.lt_of_lt_of_le h4 hab.size⟩
  have hXl : Low U.heap.size X := by
    rw [hX, hUs]
    rintro ys A B ⟨c, h1, h2, h3, h4⟩ hab
    exact ⟨c, hIx c _ _ _ h1 (hab.mono (by omega)), (hab.block _ (by omega)).trans h2, (hab.block _ (by omega)).trans h3, Nat.lt_of_lt_of_le h4 hab.size⟩
  have hJ0 : J [] U := by
    rw [hJ]
    exact ⟨hI _ _ _ h0 (by rw [← hdd]; exact hUb), hUl, hUd, by omega⟩
  refine (hs (d + 1) J X U (hw.trans (hUb.mono (by rw [hdd]; exact hw.size))) hJl hXl ?_ hJ0).mono ?_
  · -- a round
    intro pre x W hW hN
    rw [hJ] at hW
    obtain ⟨hi, hl, hD, hsz⟩ := hW
    have hyl := run_yield (P := P) (args := #[.int .i64 (x : Int)]) hl (by rw [hrc]; exact hp.symm)
    rw [hrc] at hyl
    refine ⟨fn, _, assign, body, hyl, roundIn_of_wpIn hfn (ha _ x W _ ⟨_, run_beginRound hl (by rw [hrc]), ?_⟩)⟩
    obtain ⟨V, hV⟩ : ∃ V, V = W.putObj (d + 1) (.loop { rc .ready none with state := .busy }) := ⟨_, rfl⟩
    rw [← hV]
    have hVl : V.heap[d + 1]? = some (.loop { rc .ready none with state := .busy }) := by rw [hV]; exact World.putObj_heap_same hsz
    have hVd : V.heap[d]? = some (.deferred (some [])) := by rw [hV]; exact (World.putObj_heap_other (by omega)).trans hD
    have hVs : V.heap.size = W.heap.size := by rw [hV]; simp
    have hVi : I pre V := by rw [hV]; exact hlow (d + 1) _ hI hi (by omega)
    have hVo : ∀ k, k ≠ d + 1 → V.heap[k]? = W.heap[k]? := fun k hk => by rw [hV]; exact World.putObj_heap_other (by omega)
    have last : ∀ (jump : Option Code) (Z : World), But r V Z → (Instr.endRound (d + 1) jump).run P Z = .ok (.bool jump.isNone) (Z.putObj (d + 1) (.loop (rc (if jump.isNone then .ready else .done) jump))) ∧
        (Z.putObj (d + 1) (.loop (rc (if jump.isNone then .ready else .done) jump))).heap[d + 1]? = some (.loop (rc (if jump.isNone then .ready else .done) jump)) ∧
        (Z.putObj (d + 1) (.loop (rc (if jump.isNone then .ready else .done) jump))).heap[d]? = some (.deferred (some [])) ∧ d + 1 < (Z.putObj (d + 1) (.loop (rc (if jump.isNone then .ready else .done) jump))).heap.size := fun jump Z hZ => by
      have hz : Z.heap[d + 1]? = some (.loop { rc .ready none with state := .busy }) := (hZ.block _ (by omega) (by omega)).trans hVl
      have hz2 : Z.heap[d]? = some (.deferred (some [])) := (hZ.block _ (by omega) (by omega)).trans hVd
      have he := run_endRound (P := P) jump hz
      have hzs := hZ.size
      rw [hrc] at he ⊢
      exact ⟨he, World.putObj_heap_same (by omega), (World.putObj_heap_other (by omega)).trans hz2, by simp; omega⟩
    refine wpIn_mono (hb _ pre x V hVi hN) ?_
    intro e a3 Z hZ
    cases e with
    | normal =>
      obtain ⟨hbt, hiz⟩ := hZ
      obtain ⟨h1, h2, h3, h4⟩ := last none Z hbt
      refine ⟨_, _, h1, .inl ⟨rfl, ?_, ⟨by simp; have := hbt.size; omega, fun k hk hkr => ?_⟩⟩⟩
      · rw [hJ]; exact ⟨hlow (d + 1) _ hI hiz (by omega), h2, h3, h4⟩
      · by_cases hkd : k = d + 1
        · rw [hkd]; exact h2.trans hl.symm
        · exact (World.putObj_heap_other (by omega)).trans ((hbt.block k (by omega) hkr).trans (hVo k hkd))
    | ret =>
      obtain ⟨hbt, hiz⟩ := hZ
      obtain ⟨h1, h2, h3, h4⟩ := last (some .ret) Z hbt
      refine ⟨_, _, h1, .inr ⟨rfl, ?_⟩⟩
      rw [hX]; exact ⟨_, hlow (d + 1) _ (hIx _) hiz (by omega), h2, h3, h4⟩
    | exit id =>
      obtain ⟨hbt, hiz⟩ := hZ
      obtain ⟨h1, h2, h3, h4⟩ := last (some (.exit id)) Z hbt
      refine ⟨_, _, h1, .inr ⟨rfl, ?_⟩⟩
      rw [hX]; exact ⟨_, hlow (d + 1) _ (hIx _) hiz (by omega), h2, h3, h4⟩
    | goto t => exact hZ.elim
    | panic c => exact hZ.elim
    | outgrown => exact hZ.elim
  · -- behind the function
    rintro e Z ⟨⟨v, rfl⟩, (⟨xs, hxs, hz⟩ | ⟨pre, hpre, hz⟩)⟩
    · rw [hJ] at hz
      obtain ⟨h1, h2, h3, h4⟩ := hz
      have hend := run_endLoop (P := P) h2 (by rw [hrc]; simp)
      rw [hrc] at hend
      exact ⟨none, _, hend, hd d xs _ (by omega) hxs (hlow (d + 1) _ hI h1 (by omega)) ((World.putObj_heap_other (by omega)).trans h3)⟩
    · rw [hX] at hz
      obtain ⟨c, h1, h2, h3, h4⟩ := hz
      have hend := run_endLoop (P := P) h2 (by rw [hrc]; simp)
      rw [hrc] at hend
      exact ⟨some c, _, hend, hx d c pre _ (by omega) hpre (hlow (d + 1) _ (hIx c) h1 (by omega)) ((World.putObj_heap_other (by omega)).trans h3)⟩
end Rg
end Go.Proofs.Ytkifnabkoidhcaa
