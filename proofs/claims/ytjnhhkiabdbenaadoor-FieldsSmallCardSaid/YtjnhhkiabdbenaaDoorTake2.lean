/-
  A drawn region by hand whose last operations write the very cells that its first ones load: a condition that hangs on which operations have run, and a load that a store waits for may be taken first. Nothing of the program stands here.
-/
import Derived.Deep.RegionHeld3
namespace Go.Proofs.YtjnhhkiabdbenaaDoor
namespace Tk

/-- Whatever order is picked from here on; behind every operation T holds of what has run. -/
def Any (P : Program) (md : Region.Mode) (ops : Array Oper) (Q : Exit → Act → World → Prop) (T : Array Bool → World → Prop) : Nat → Array Bool → Act → World → Prop
  | 0, L, a, w => Region.ready md ops L = [] ∧ Q .normal a w
  | n + 1, L, a, w => (Region.ready md ops L = [] → Q .normal a w) ∧ ∀ i ∈ Region.ready md ops L, wpOp P ops Q i (fun a' w' => T (L.setIfInBounds i true) w' ∧ Any P md ops Q T n (L.setIfInBounds i true) a' w') a w
variable {P : Program} {md : Region.Mode} {ops : Array Oper} {Q : Exit → Act → World → Prop} {T : Array Bool → World → Prop}

theorem Any.plain : ∀ (n : Nat) (L : Array Bool) (a : Act) (w : World), Any P md ops Q T n L a w → wpAny P md ops Q n L a w
  | 0, _, _, _, h => h
  | n + 1, _, _, _, h => ⟨h.1, fun i hi => wpOp_mono (fun _ _ k => Any.plain n _ _ _ k.2) (h.2 i hi)⟩
theorem start {id : Nat} {a : Act} {w : World} (hm : P.follows .mixedOrders = true) (h : Any P .any ops Q T ops.size (Array.replicate ops.size false) a w.drew) : (Code.region id ops true).wp P Q a w :=
  wp_region_any hm (h.plain _ _ _ _)
theorem Any.done {L : Array Bool} {a : Act} {w : World} (hr : Region.ready md ops L = []) (h : Q .normal a w) : ∀ n, Any P md ops Q T n L a w
  | 0 => ⟨hr, h⟩
  | _ + 1 => ⟨fun _ => h, by rw [hr]; simp⟩
/-- One operation is the only one that may come up. -/
theorem Any.only {i : Nat} {o : Oper} {n : Nat} {L : Array Bool} {a : Act} {w : World} (hr : Region.ready md ops L = [i]) (ho : ops[i]? = some o)
    (h : ∀ K : Act → World → Prop, Shut (∀ a' w', T (L.setIfInBounds i true) w' → Any P md ops Q T n (L.setIfInBounds i true) a' w' → K a' w') → if Region.wanted o (yielded ops a.tmps) = true then Oper.wp P o a w K Q else K (a.put o.dst undef) w) :
    Any P md ops Q T (n + 1) L a w := by
  refine ⟨fun e => (by rw [e] at hr; cases hr), fun j hj => ?_⟩
  rw [hr, List.mem_singleton] at hj
  subst hj
  exact wpOp_step ho fun K hK => h K fun a' w' h1 h2 => hK a' w' ⟨h1, h2⟩
/-- What stands while J holds of what has run. -/
def While (T : Array Bool → World → Prop) (J : Array Bool → Prop) (w : World) : Prop := ∃ L : Array Bool, J L ∧ T L w
theorem ready_set {i j : Nat} {L : Array Bool} (hi : i ∈ Region.ready md ops L) (h : i ≠ j) : i ∈ Region.ready md ops (L.setIfInBounds j true) := ready_mono hi h
/-- What waits for i does not come up while i may. -/
theorem waits {i j : Nat} {L : Array Bool} (hr : i ∈ Region.ready md ops L) (hj : j ∈ Region.ready md ops L) {oj : Oper} (hoj : ops[j]? = some oj) : ∀ e ∈ oj.after, Region.binds md e = true → e.on ≠ i := by
  intro e he hb heq
  obtain ⟨_, o2, ho2, hall⟩ := mem_ready.1 hj
  obtain rfl : o2 = oj := Option.some.inj (ho2.symm.trans hoj)
  have h1 := hall e he hb
  have h0 := (mem_ready.1 hr).1
  rw [heq] at h1
  rcases Nat.lt_or_ge i L.size with h' | h'
  · simp [h'] at h0 h1
    rw [h0] at h1
    cases h1
  · simp [Array.getElem?_eq_none h'] at h1
/-- What yields its value while J holds may be taken first. -/
theorem first {i : Nat} {oi : Oper} {v : Value} {J : Array Bool → Prop} (hi : ops[i]? = some oi) (hJ : ∀ (L : Array Bool) (j : Nat), i ∈ Region.ready md ops L → j ∈ Region.ready md ops L → j ≠ i → J L → J (L.setIfInBounds j true))
    (hsel : ∀ (j : Nat) (o : Oper) cs b, ops[j]? = some o → o.op ≠ .select cs b) (hQ : ∀ c a w, Q (.panic c) (a.put oi.dst v) w → Q (.panic c) a w) (hT : ∀ L w, T (L.setIfInBounds i true) w → T L w) (hT2 : ∀ L w, T L w → T (L.setIfInBounds i true) w) :
    ∀ (n : Nat) (L : Array Bool) (a : Act) (w : World), (∀ j oj, ops[j]? = some oj → j ≠ i → L.getD j true = false → (∀ e ∈ oj.after, Region.binds md e = true → e.on ≠ i) → oi.apart ops oj = true) →
      i ∈ Region.ready md ops L → J L → YieldsIf P ops (While T J) oi v a → T L w → Any P md ops Q T n (L.setIfInBounds i true) (a.put oi.dst v) w → Any P md ops Q T (n + 1) L a w := by
  intro n
  induction n with
  | zero =>
    intro L a w _ hr hs hy hTw H
    refine ⟨fun h => (by rw [h] at hr; cases hr), fun j hj => ?_⟩
    by_cases hji : j = i
    · subst hji
      exact hy.wpOp hi ⟨L, hs, hTw⟩ ⟨hT2 _ _ hTw, H⟩
    · have h1 := ready_set hj hji
      rw [H.1] at h1
      cases h1
  | succ n ih =>
    intro L a w hfree hr hs hy hTw H
    refine ⟨fun h => (by rw [h] at hr; cases hr), fun j hj => ?_⟩
    by_cases hji : j = i
    · subst hji
      exact hy.wpOp hi ⟨L, hs, hTw⟩ ⟨hT2 _ _ hTw, H⟩
    · have h1 := H.2 j (ready_set hj hji)
      obtain ⟨hjun, oj, hoj, _⟩ := mem_ready.1 hj
      have hnot := waits hr hj hoj
      have h2 := wpOp_putIf hoj (hfree j oj hoj hji hjun hnot) (fun cs b => hsel i oi cs b hi) (fun cs b => hsel j oj cs b hoj) hQ hy h1
      have hs2 := hJ L j hr hj hji hs
      refine wpOp_mono (fun a' w' h3 => ?_) h2
      obtain ⟨hy3, hT3, hA3⟩ := h3
      rw [Array.setIfInBounds_comm _ _ (fun e => hji e.symm)] at hT3 hA3
      have hT4 := hT _ _ hT3
      refine ⟨hT4, ih (L.setIfInBounds j true) a' w' (fun k ok hk hki hun hno => hfree k ok hk hki ?_ hno) (ready_set hr (Ne.symm hji)) hs2 hy3 hT4 hA3⟩
      by_cases hjk : j = k
      · subst hjk; exact hjun
      · rw [getD_set_ne true hjk] at hun; exact hun
/-- The world is W as long as number st has not run. -/
def At (st : Nat) (W : World) : Array Bool → World → Prop := fun L w => L.getD st true = false → w = W
theorem at_set {st i : Nat} (h : i ≠ st) (W : World) (L : Array Bool) (w : World) : At st W (L.setIfInBounds i true) w ↔ At st W L w := by
  unfold At
  rw [getD_set_ne true h]
/-- What number st waits for is taken first: it may look at the world. -/
theorem take {i st n : Nat} {d : Option Tmp} {v : Value} {L : Array Bool} {a : Act} {W : World} (hd : (ops[i]?).map (·.dst) = some d) (hne : i ≠ st)
    (hs : Region.noSelect ops = true) (hf : Region.free md ops L i = true) (hr : (Region.ready md ops L).contains i = true)
    (hQ : ∀ c a w, Q (.panic c) (a.put d v) w → Q (.panic c) a w) (hst : ((ops[st]?).map fun o => o.after.any fun e => Region.binds md e && e.on == i) = some true) (hL : L.getD st true = false)
    (hw : (ops[i]?).map (fun o => Region.wanted o (yielded ops a.tmps)) = some true) (hy : ∀ oi, ops[i]? = some oi → (execOp a.eval oi).run P W = .ok (.value v) W)
    (h : Any P md ops Q (At st W) n (L.setIfInBounds i true) (a.put d v) W) : Any P md ops Q (At st W) (n + 1) L a W := by
  cases ho : ops[i]? with
  | none => rw [ho] at hd; cases hd
  | some oi =>
    rw [ho] at hd hw
    simp only [Option.map_some, Option.some.injEq] at hd hw
    subst hd
    refine first (J := fun L => L.getD st true = false) ho (fun L j h1 h2 h3 h4 => ?_) (Region.noSelect_spec hs) hQ (fun L w => (at_set hne W L w).1) (fun L w => (at_set hne W L w).2) n L a W (Region.free_spec ho hf) (by simpa using hr) hL (.inl ⟨hw, ?_⟩) (fun _ => rfl) h
    · have hjs : j ≠ st := by
        rintro rfl
        obtain ⟨ost, hos, hany⟩ := Option.map_eq_some_iff.1 hst
        obtain ⟨e, he, hb⟩ := Array.any_eq_true'.1 hany
        simp only [Bool.and_eq_true, beq_iff_eq] at hb
        exact waits h1 h2 hos e he hb.1 hb.2
      show (L.setIfInBounds j true).getD st true = false
      rw [getD_set_ne true hjs]
      exact h4
    · rintro w ⟨L2, h1, h2⟩
      obtain rfl := h2 h1
      exact hy oi ho
/-- What looks at no world is taken first, or is passed over. -/
theorem easy {i st n : Nat} {d : Option Tmp} {v : Value} {L : Array Bool} {a : Act} {W : World} (hd : (ops[i]?).map (·.dst) = some d) (hne : i ≠ st)
    (hs : Region.noSelect ops = true) (hf : Region.free md ops L i = true) (hr : (Region.ready md ops L).contains i = true)
    (hQ : ∀ c a w, Q (.panic c) (a.put d v) w → Q (.panic c) a w)
    (hw : (ops[i]?).map (fun o => Region.wanted o (yielded ops a.tmps)) = some true) (hy : ∀ oi, ops[i]? = some oi → ∀ w, (execOp a.eval oi).run P w = .ok (.value v) w)
    (h : Any P md ops Q (At st W) n (L.setIfInBounds i true) (a.put d v) W) : Any P md ops Q (At st W) (n + 1) L a W := by
  cases ho : ops[i]? with
  | none => rw [ho] at hd; cases hd
  | some oi =>
    rw [ho] at hd hw
    simp only [Option.map_some, Option.some.injEq] at hd hw
    subst hd
    exact first (J := fun _ => True) ho (fun _ _ _ _ _ _ => trivial) (Region.noSelect_spec hs) hQ (fun L w => (at_set hne W L w).1) (fun L w => (at_set hne W L w).2) n L a W (Region.free_spec ho hf) (by simpa using hr) trivial (.inl ⟨hw, fun w _ => hy oi ho w⟩) (fun _ => rfl) h
theorem skip {i st n : Nat} {d : Option Tmp} {L : Array Bool} {a : Act} {W : World} (hd : (ops[i]?).map (·.dst) = some d) (hne : i ≠ st)
    (hs : Region.noSelect ops = true) (hf : Region.free md ops L i = true) (hr : (Region.ready md ops L).contains i = true)
    (hQ : ∀ c a w, Q (.panic c) (a.put d undef) w → Q (.panic c) a w)
    (hw : (ops[i]?).map (fun o => Region.wanted o (yielded ops a.tmps)) = some false)
    (h : Any P md ops Q (At st W) n (L.setIfInBounds i true) (a.put d undef) W) : Any P md ops Q (At st W) (n + 1) L a W := by
  cases ho : ops[i]? with
  | none => rw [ho] at hd; cases hd
  | some oi =>
    rw [ho] at hd hw
    simp only [Option.map_some, Option.some.injEq] at hd hw
    subst hd
    exact first (J := fun _ => True) ho (fun _ _ _ _ _ _ => trivial) (Region.noSelect_spec hs) hQ (fun L w => (at_set hne W L w).1) (fun L w => (at_set hne W L w).2) n L a W (Region.free_spec ho hf) (by simpa using hr) trivial (.inr ⟨hw, rfl⟩) (fun _ => rfl) h
end Tk
end Go.Proofs.YtjnhhkiabdbenaaDoor
