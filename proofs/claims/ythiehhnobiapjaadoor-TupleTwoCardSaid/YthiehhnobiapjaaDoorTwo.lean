/-
  Two lists one behind the other are told so, and unlike lists are told unlike: the law's call.
-/
import Derived.Test.YthiehhnobiapjaaDoorBack
namespace Go.Proofs.YthiehhnobiapjaaDoor
open Go.RowKit Net
namespace Tup

theorem run_append_nil {P : Program} {T E : TypeId} {z : Value} {bytes : Nat} (k : Own.Ty P T E z bytes) (ty : TypeId) {w : World} {B : Nat} {v : Value} {l : List ByteArray} (h : Own.Es Value.string w B v l) :
    (Builtin.append_ #[T, T] ty #[v, .slice none 0 0]).run P w = .ok v w := by
  obtain ⟨i, hi, _, _, _⟩ := info_parts k.info
  rcases h with ⟨rfl, rfl⟩ | ⟨g, cap, rfl, _, _, hnc, _⟩
  · simp [Builtin.append_, run_underlying k.und, sizeOf, typeInfo, hi, Builtin.lenOf, Builtin.firstCells]
  · simp [Builtin.append_, run_underlying k.und, sizeOf, typeInfo, hi, Builtin.lenOf, Builtin.firstCells, hnc, storeCells]

/-- append(v, m...), m a list that is read. -/
theorem wpList_appendRd {P : Program} {T E : TypeId} {z : Value} {bytes : Nat} {ops : Array Oper} {rest : List Oper} {o : Oper} {a : Act} {Q : Exit → Act → World → Prop} {w : World} {B : Nat} {v : Value} {l m : List ByteArray} {A : Option Addr} {n q : Nat}
    (k : Own.Ty P T E z bytes) (hgd : o.guard = none) (s x : Operand) (ho : o.op = .call { callee := .builtin .append, args := #[s, x], argTypes := #[T, T] }) (hs : a.eval s = v) (hb : Own.Es Value.string w B v l) (hB : B ≤ w.heap.size)
    (hx : a.eval x = .slice A n q) (hR : Rd w A m) (hn : m.length = n) (hA : A = none → n = 0 ∧ q = 0) (hlen : (l.length + n) * bytes ≤ 140737488355328) (hmx : l.length + n ≤ maxLen)
    (h : ∀ v' w', Own.Es Value.string w' B v' (l ++ m) → w.grownBy w' v.ownBlock → wpList P ops Q rest (a.put o.dst v') w') : wpList P ops Q (o :: rest) a w := by
  have hrun : ∃ v' w', (Builtin.append_ #[T, T] o.type #[v, .slice A n q]).run P w = .ok v' w' ∧ Own.Es Value.string w' B v' (l ++ m) ∧ w.grownBy w' v.ownBlock := by
    subst hn
    cases A with
    | none =>
      obtain ⟨h1, rfl⟩ := hA rfl
      have hm : m = [] := List.eq_nil_of_length_eq_zero h1
      subst hm
      exact ⟨v, w, run_append_nil k o.type hb, by rw [List.append_nil]; exact hb, World.grownBy.refl _ _⟩
    | some ad =>
      obtain ⟨v', w', hr, h1, h2, _⟩ := Own.run_append (P := P) (c := Value.string) k str_one o.type hb hB ad m.length q m rfl (fun j u hu => by
        rw [List.getElem?_map, Option.map_eq_some_iff] at hu
        obtain ⟨y, hy, rfl⟩ := hu
        obtain ⟨hj, rfl⟩ := List.getElem?_eq_some_iff.1 hy
        obtain ⟨g, off, e, _, hc⟩ := hR j hj
        injection e with e
        subst e
        rw [Addr.add_lit]
        exact hc) hlen hmx
      exact ⟨v', w', hr, h1, h2⟩
  obtain ⟨v', w', hr, h1, h2⟩ := hrun
  refine wpList_plain hgd fun K hK => ?_
  unfold Oper.wp execOp
  simp only [ho, resolve, invoke, builtin, Sem.run_bind, Sem.run_pure, Result.andThen_ok, List.map_toArray, List.map_cons, List.map_nil, hs, hx, hr]
  exact hK _ _ (h v' w' h1 h2)

theorem es_some {w : World} {B : Nat} {v : Value} {l : List ByteArray} (h : Own.Es Value.string w B v l) : ∃ A n k, v = .slice A n k ∧ l.length = n ∧ Rd w A l := by
  obtain ⟨A, k, rfl, hr⟩ := Rd.of_es h
  exact ⟨A, _, k, rfl, rfl, hr⟩
theorem few_both {l m : List ByteArray} (hl : much l ≤ 2000) (hm : much m ≤ 2000) : (l ++ m).length ≤ 100000 ∧ ∀ s ∈ l ++ m, s.size ≤ 1000000 := by
  have h1 := few_mem hl
  have h2 := few_mem hm
  refine ⟨by rw [List.length_append]; omega, fun s hs => ?_⟩
  rcases List.mem_append.1 hs with h | h
  · have := h1.2 s h; omega
  · have := h2.2 s h; omega
theorem bs_cat (a b : List UInt8) : bs a ++ bs b = bs (a ++ b) := by
  apply toL_inj
  rw [toL_bs]
  unfold toL bs
  simp
theorem few_inj {l m : List ByteArray} (hl : much l ≤ 2000) (hm : much m ≤ 2000) (h : bs (enc (l.map toL)) = bs (enc (m.map toL))) : l = m := by
  have h1 := congrArg toL h
  rw [toL_bs, toL_bs] at h1
  refine map_toL_inj (enc_inj ?_ ?_ h1)
  · intro x hx
    obtain ⟨s, hs, rfl⟩ := List.mem_map.1 hx
    have := (few_mem hl).2 s hs
    rw [toL_length]; omega
  · intro x hx
    obtain ⟨s, hs, rfl⟩ := List.mem_map.1 hx
    have := (few_mem hm).2 s hs
    rw [toL_length]; omega

/-- The three texts: of one list, of the other, of both. -/
structure Three (l m : List ByteArray) (t u x : ByteArray) : Prop where
  one : t = bs (enc (l.map toL))
  other : u = bs (enc (m.map toL))
  both : x = bs (enc ((l ++ m).map toL))
theorem Three.cat {l m : List ByteArray} {t u x : ByteArray} (h : Three l m t u x) : x = t ++ u := by
  rw [h.one, h.other, h.both, bs_cat, List.map_append, enc_append]
theorem cat_eq {l m : List ByteArray} {t u x : ByteArray} (h : Three l m t u x) : (x.toList == (t ++ u).toList) = true := by
  rw [beq_str, decide_eq_true h.cat]
theorem cat_small {l m : List ByteArray} {t u : ByteArray} (ht : t = bs (enc (l.map toL))) (hu : u = bs (enc (m.map toL))) (hl : much l ≤ 2000) (hm : much m ≤ 2000) : ¬ 9223372036854775807 < t.size + u.size := by
  have h1 := few_enc hl
  have h2 := few_enc hm
  rw [ht, hu, bs_size, bs_size]
  omega
theorem alike {l m : List ByteArray} {t u : ByteArray} (ht : t = bs (enc (l.map toL))) (hu : u = bs (enc (m.map toL))) (hl : much l ≤ 2000) (hm : much m ≤ 2000) {b : Bool} (h : decide (l = m) = b) : (t.toList == u.toList) = b := by
  rw [beq_str, ← h]
  by_cases e : l = m
  · subst e
    rw [decide_eq_true rfl, decide_eq_true (ht.trans hu.symm)]
  · rw [decide_eq_false e, decide_eq_false]
    intro e2
    rw [ht, hu] at e2
    exact e (few_inj hl hm e2)

set_option maxHeartbeats 1000000 in
set_option maxRecDepth 100000 in
theorem two_any (l m : List ByteArray) (A C : Option Addr) (n k p q : Nat) (w : World) (hK : Kit w) (hl : Arg w A n k l) (hm : Arg w C p q m) :
    Calls Tryd.prog 5 #[.slice A n k, .slice C p q] w fun e w' => e = .returned (.bool true) ∧ Below w.heap.size w w' := by
  have HK := Kept.mk hK
  have HL := Kept.mk hl
  have HM := Kept.mk hm
  clear hK hl hm
  by_cases hF : much l ≤ 2000
  · by_cases hG : much m ≤ 2000
    · have HF := Kept.mk hF
      have HG := Kept.mk hG
      have HN : Kept (n ≤ 2000 ∧ p ≤ 2000) := ⟨by have h1 := (few_mem hF).1; have h2 := (few_mem hG).1; rw [HL.out.len] at h1; rw [HM.out.len] at h2; exact ⟨h1, h2⟩⟩
      clear hF hG
      obtain ⟨d, hd⟩ : ∃ d, decide (l = m) = d := ⟨_, rfl⟩
      have HD := Kept.mk hd
      clear hd
      cases d
      all_goals
        have T1 : Kept True := ⟨trivial⟩
        have T2 : Kept True := ⟨trivial⟩
        have T3 : Kept True := ⟨trivial⟩
        have T4 : Kept True := ⟨trivial⟩
        go_enter Tryd.func5, Tryd.ntmps5
        go_wp2_with (first
          | (go_at_call 7; refine (awake_any w HK.out).mono ?_; rintro e w1 ⟨rfl, hb1⟩; have HB1 := Kept.mk hb1; clear hb1)
          | (have := T1; go_at_call 6; clear T1; refine (few_is l A n k w1 true (HL.out.rd.below HB1.out) HL.out.len HL.out.lim HL.out.each (decide_eq_true HF.out)).mono ?_; rintro e w2 ⟨rfl, rfl⟩)
          | (go_at_call 6; refine (few_is m C p q w2 true (HM.out.rd.below HB1.out) HM.out.len HM.out.lim HM.out.each (decide_eq_true HG.out)).mono ?_; rintro e w3 ⟨rfl, rfl⟩)
          | (have := T2; refine wpList_appendRd strTy rfl _ _ rfl rfl (Own.Es.nil _ _ w.heap.size) HB1.out.size rfl (HL.out.rd.below HB1.out) HL.out.len HL.out.nil (by have := HN.out; simp only [List.length_nil]; omega) (by have := HN.out; unfold maxLen; simp only [List.length_nil]; omega) ?_
             intro v4 w4 hE4 hg4
             have HB4 : Kept (Below w.heap.size w w4) := ⟨HB1.out.grown hg4 HB1.out.size (fun _ h => by cases h)⟩
             have HE4 : Kept (Own.Es Value.string w4 w.heap.size v4 l) := ⟨hE4⟩
             clear hE4 hg4 T2)
          | (refine wpList_appendRd strTy rfl _ _ rfl rfl HE4.out HB4.out.size rfl (HM.out.rd.below HB4.out) HM.out.len HM.out.nil (by have := HN.out; rw [HL.out.len]; omega) (by have := HN.out; unfold maxLen; rw [HL.out.len]; omega) ?_
             intro v5 w5 hE5 hg5
             have HB5 : Kept (Below w.heap.size w w5) := ⟨HB4.out.grown hg5 HB4.out.size (fun g h => (HE4.out.lt g h).1)⟩
             obtain ⟨D, c, r, rfl, hc5, hR5⟩ := es_some hE5
             have HC5 := Kept.mk hc5
             have HR5 := Kept.mk hR5
             clear hE5 hg5 hR5 hc5)
          | (have := T3; go_at_call 10; clear T3; refine (encode_few l A n k w5 (HK.out.below HB5.out) (HL.out.rd.below HB5.out) HL.out.len HF.out).mono ?_; rintro e w6 ⟨t, rfl, hb6, ht⟩; have HB6 : Kept (Below w.heap.size w w6) := ⟨HB5.out.trans (hb6.mono HB5.out.size)⟩; have HR6 := Kept.mk (HR5.out.below hb6); clear hb6)
          | (have := T4; go_at_call 10; clear T4; refine (encode_few m C p q w6 (HK.out.below HB6.out) (HM.out.rd.below HB6.out) HM.out.len HG.out).mono ?_; rintro e w7 ⟨u, rfl, hb7, hu⟩; have HB7 : Kept (Below w.heap.size w w7) := ⟨HB6.out.trans (hb7.mono HB6.out.size)⟩; have HR7 := Kept.mk (HR6.out.below hb7); clear hb7; have hAB := alike ht.out hu.out HF.out HG.out HD.out)
          | (go_at_call 10; refine (encode_any (l ++ m) D c r w7 (HK.out.below HB7.out) HR7.out HC5.out (by rw [← HC5.out]; exact (few_both HF.out HG.out).1) (few_both HF.out HG.out).2).mono ?_; rintro e w8 ⟨x, rfl, hb8, hx⟩; have HB8 : Kept (Below w.heap.size w w8) := ⟨HB7.out.trans (hb8.mono HB7.out.size)⟩; clear hb8; have hABC := cat_eq (Three.mk ht.out hu.out hx.out); have hSm := cat_small ht.out hu.out HF.out HG.out)
          | (go_at_call 12; refine (same_any l m A C n k p q w8 (HL.out.rd.below HB8.out) (HM.out.rd.below HB8.out) HL.out.len HM.out.len HL.out.lim HM.out.lim).mono ?_; rintro e w9 ⟨rfl, hb9⟩; have HB9 : Kept (Below w.heap.size w w9) := ⟨HB8.out.trans (hb9.mono HB8.out.size)⟩; clear hb9; rw [HD.out]))
        go_ret
        exact ⟨rfl, HB9.out⟩
    · have HF := Kept.mk hF
      have HG := Kept.mk hG
      clear hF hG
      have T1 : Kept True := ⟨trivial⟩
      have T2 : Kept True := ⟨trivial⟩
      have T3 : Kept True := ⟨trivial⟩
      have T4 : Kept True := ⟨trivial⟩
      go_enter Tryd.func5, Tryd.ntmps5
      go_wp2_with (first
        | (go_at_call 7; refine (awake_any w HK.out).mono ?_; rintro e w1 ⟨rfl, hb1⟩; have HB1 := Kept.mk hb1; clear hb1)
        | (have := T1; go_at_call 6; clear T1; refine (few_is l A n k w1 true (HL.out.rd.below HB1.out) HL.out.len HL.out.lim HL.out.each (decide_eq_true HF.out)).mono ?_; rintro e w2 ⟨rfl, rfl⟩)
        | (go_at_call 6; refine (few_is m C p q w2 false (HM.out.rd.below HB1.out) HM.out.len HM.out.lim HM.out.each (decide_eq_false HG.out)).mono ?_; rintro e w3 ⟨rfl, rfl⟩))
      go_ret
      exact ⟨rfl, HB1.out⟩
  · have HF := Kept.mk hF
    clear hF
    have T1 : Kept True := ⟨trivial⟩
    have T2 : Kept True := ⟨trivial⟩
    have T3 : Kept True := ⟨trivial⟩
    have T4 : Kept True := ⟨trivial⟩
    go_enter Tryd.func5, Tryd.ntmps5
    go_wp2_with (first
      | (go_at_call 7; refine (awake_any w HK.out).mono ?_; rintro e w1 ⟨rfl, hb1⟩; have HB1 := Kept.mk hb1; clear hb1)
      | (have := T1; go_at_call 6; clear T1; refine (few_is l A n k w1 false (HL.out.rd.below HB1.out) HL.out.len HL.out.lim HL.out.each (decide_eq_false HF.out)).mono ?_; rintro e w2 ⟨rfl, rfl⟩))
    go_ret
    exact ⟨rfl, HB1.out⟩
end Tup
end Go.Proofs.YthiehhnobiapjaaDoor
