/-
  The document's store: names, Names, where nothing is recorded.
-/
import Derived.Test.YtjmblgahoejoiaaGreatDoorRpath
namespace Go.Proofs.YtjmblgahoejoiaaGreatDoor
open Go.RowKit Tx
namespace St

/-! ### What a child is -/
theorem child_eq (P S : List UInt8) : child P S = if S.take P.length = P ∧ S[P.length]? = some 47 ∧ (47 : UInt8) ∉ S.drop (P.length + 1) then some (S.drop (P.length + 1)) else none := by
  have e : ((P ++ [47]).isPrefixOf S = true ∧ (47 : UInt8) ∉ S.drop (P.length + 1)) ↔ (S.take P.length = P ∧ S[P.length]? = some 47 ∧ (47 : UInt8) ∉ S.drop (P.length + 1)) := by
    constructor
    · rintro ⟨h, h2⟩
      obtain ⟨r, rfl⟩ := List.isPrefixOf_iff_prefix.1 h
      exact ⟨by simp, by simp, h2⟩
    · rintro ⟨h1, h2, h3⟩
      refine ⟨List.isPrefixOf_iff_prefix.2 ⟨S.drop (P.length + 1), ?_⟩, h3⟩
      obtain ⟨hl, hx⟩ := List.getElem?_eq_some_iff.1 h2
      rw [List.append_assoc, List.singleton_append, ← hx, ← List.drop_eq_getElem_cons hl]
      conv => lhs; lhs; rw [← h1]
      exact List.take_append_drop _ _
  unfold child
  by_cases h : S.take P.length = P ∧ S[P.length]? = some 47 ∧ (47 : UInt8) ∉ S.drop (P.length + 1)
  · rw [if_pos h, if_pos (e.2 h)]
  · rw [if_neg h, if_neg (fun k => h (e.1 k))]
theorem child_short {p s : ByteArray} (h : s.size ≤ p.size) : child (toL p) (toL s) = none := by
  rw [child_eq, if_neg]
  rintro ⟨_, h2, _⟩
  have := (List.getElem?_eq_some_iff.1 h2).1
  rw [toL_length, toL_length] at this
  omega
theorem toL_take (s p : ByteArray) : toL (s.extract 0 p.size) = (toL s).take (toL p).length := by rw [toL_extract, toL_length]; simp
theorem child_pre {p s : ByteArray} (h : s.extract 0 p.size ≠ p) : child (toL p) (toL s) = none := by
  rw [child_eq, if_neg]
  rintro ⟨h1, _, _⟩
  exact h (toL_inj (by rw [toL_take, h1]))
theorem child_byte {p s : ByteArray} (hp : p.size < s.size) (h : s[p.size]'hp ≠ 47) : child (toL p) (toL s) = none := by
  rw [child_eq, if_neg]
  rintro ⟨_, h2, _⟩
  obtain ⟨hl, hx⟩ := List.getElem?_eq_some_iff.1 h2
  apply h
  rw [← hx, ← at_toL s p.size hp]
  congr 1
  first | done | exact (toL_length p).symm
theorem child_in {p s : ByteArray} (hp : p.size < s.size) (h : s.extract 0 p.size = p) (hb : s[p.size]'hp = 47) :
    child (toL p) (toL s) = if (47 : UInt8) ∉ toL (s.extract (p.size + 1) s.size) then some (toL (s.extract (p.size + 1) s.size)) else none := by
  have e : toL (s.extract (p.size + 1) s.size) = (toL s).drop ((toL p).length + 1) := by
    rw [toL_extract, toL_length, List.take_of_length_le]
    rw [List.length_drop, toL_length]
    omega
  rw [child_eq, e]
  have h1 : (toL s).take (toL p).length = toL p := by rw [← toL_take, h]
  have h2 : (toL s)[(toL p).length]? = some 47 := by
    rw [List.getElem?_eq_some_iff]
    refine ⟨by rw [toL_length, toL_length]; exact hp, ?_⟩
    rw [← hb, ← at_toL s p.size hp]
    congr 1
    first | done | exact toL_length p
  by_cases h3 : (47 : UInt8) ∉ (toL s).drop ((toL p).length + 1)
  · rw [if_pos ⟨h1, h2, h3⟩, if_pos h3]
  · rw [if_neg (fun h => h3 h.2.2), if_neg h3]

/-! ### The walk -/
def more (p s : ByteArray) : List ByteArray := match child (toL p) (toL s) with | some n => [bs n] | none => []
theorem names_snoc (t : Tree) (p : ByteArray) {j : Nat} (hj : j < t.length) : names (t.take (j + 1)) p = names (t.take j) p ++ more p t[j].1 := by
  unfold names more
  rw [List.take_succ_eq_append_getElem hj, List.filterMap_append]
  congr 1
  cases h : child (toL p) (toL t[j].1) <;> simp [h]
theorem names_few (t : Tree) (p : ByteArray) (j : Nat) (h : t.length ≤ 1000000) : (names (t.take j) p).length ≤ 1000000 := by
  have : (names (t.take j) p).length ≤ (t.take j).length := List.length_filterMap_le _ _
  rw [List.length_take] at this
  omega

structure NamIn (w wr : World) (v : Value) (t : Tree) (p : ByteArray) (j : Nat) : Prop where
  below : Below w.heap.size w wr
  es : Own.Es Value.string wr w.heap.size v (names (t.take j) p)
theorem NamIn.skip {w wr : World} {v : Value} {t : Tree} {p : ByteArray} {j : Nat} (h : NamIn w wr v t p j) (hj : j < t.length) (hn : child (toL p) (toL t[j].1) = none) : NamIn w wr v t p (j + 1) :=
  ⟨h.below, by rw [names_snoc t p hj]; unfold more; rw [hn]; simpa using h.es⟩
theorem NamIn.push {w wr w2 : World} {v v2 : Value} {t : Tree} {p n : ByteArray} {j : Nat} (h : NamIn w wr v t p j) (hj : j < t.length) (hn : child (toL p) (toL t[j].1) = some (toL n)) (hE : Own.Es Value.string w2 w.heap.size v2 (names (t.take j) p ++ [n])) (hg : wr.grownBy w2 v.ownBlock) : NamIn w w2 v2 t p (j + 1) :=
  ⟨h.below.grown hg h.below.size (fun k hk => (h.es.lt k hk).1), by rw [names_snoc t p hj]; unfold more; rw [hn]; simpa [bs_toL] using hE⟩

set_option maxHeartbeats 2000000 in
set_option maxRecDepth 100000 in
theorem refNamesIn_any (lv : Value) (t : Tree) (p : ByteArray) (w : World) (h : RL w lv t) (ht : t.length ≤ 1000000) (hp : p.size ≤ 1000000000000000) (hsz : ∀ q ∈ t, q.1.size ≤ maxLen) :
    Calls Tryz.prog 49 #[lv, .string p] w fun e w' => ∃ v, e = .returned v ∧ Kept (Own.Es Value.string w' w.heap.size v (names t p)) ∧ Below w.heap.size w w' := by
  rcases h with ⟨rfl, rfl⟩ | ⟨q, cap, rfl, hcap, hat⟩
  · go_enter Tryz.func49, Tryz.ntmps49
    go_wp2
    go_loopw [5, 6] (fun v x wr => v = .slice none 0 0 ∧ x = .int .i64 0 ∧ wr = w) (fun _ x _ => 0)
    case atStart => exact ⟨rfl, rfl, rfl⟩
    case round =>
      obtain ⟨rfl, rfl, rfl⟩ := hrel
      go_wp2
      go_ret
      exact ⟨_, rfl, ⟨Own.Es.nil _ _ _⟩, Below.refl _ _⟩
  · have HA : Kept (RL w (.slice (some ⟨q, 0, none⟩) t.length cap) t) := ⟨.inr ⟨q, cap, rfl, hcap, hat⟩⟩
    have hq := hat.1
    clear hat hcap
    have HS := Kept.mk hsz
    clear hsz
    go_enter Tryz.func49, Tryz.ntmps49
    go_wp2
    go_loopw [5, 6] (fun v x wr => ∃ j : Nat, j ≤ t.length ∧ x = .int .i64 j ∧ Kept (NamIn w wr v t p j)) (fun _ x _ => t.length - (intOf x).toNat)
    case atStart => exact ⟨0, by omega, rfl, ⟨⟨Below.refl _ _, Own.Es.nil _ _ _⟩⟩⟩
    case round =>
      obtain ⟨j, hj, rfl, hD⟩ := hrel
      have i0 : (0 : Int) ≤ j := by omega
      by_cases hlt : j < t.length
      · have i1 : (j : Int) < (t.length : Int) := by omega
        have c1 := (HA.out.keep (w' := wr) (fun k hk => hD.out.below.block k (HA.out.lt k hk)) hD.out.below.size).path hlt
        have HJ : Kept (j < t.length) := ⟨hlt⟩
        have hskip : Kept (child (toL p) (toL t[j].1) = none → NamIn w wr u5 t p (j + 1)) := ⟨fun h => hD.out.skip hlt h⟩
        have hpush : Kept (∀ (n : ByteArray) v2 w2, child (toL p) (toL t[j].1) = some (toL n) → Own.Es Value.string w2 w.heap.size v2 (names (t.take j) p ++ [n]) → wr.grownBy w2 u5.ownBlock → NamIn w w2 v2 t p (j + 1)) := ⟨fun n v2 w2 h hE hg => hD.out.push hlt h hE hg⟩
        have hsm : t[j].1.size ≤ maxLen := HS.out _ (List.getElem_mem hlt)
        unfold maxLen at hsm
        generalize t[j].1 = s at c1 hskip hsm hpush
        by_cases h1 : s.size ≤ p.size
        · have z1 : (s.size : Int) ≤ p.size := by omega
          have HN := Kept.mk (hskip.out (child_short h1))
          go_wp2
          go_roundw
          case rel => exact ⟨j + 1, by omega, by go_num, HN⟩
          case measure => simp [intOf]; omega
        · have z1 : ¬ (s.size : Int) ≤ p.size := by omega
          have hto : ∀ W : World, (Instr.slice 9 (.string s) none (some (.int .i64 (p.size : Int))) none).run Tryz.prog W = .ok (.string (s.extract 0 p.size)) W := fun W => by
            rw [run_slice_string_to_if W 9 s .i64 _ Tryz.underlying9, if_pos ⟨by omega, by omega⟩]
            rfl
          have hsp : p.size < s.size := by omega
          have z2 : (p.size : Int) < s.size := by omega
          by_cases h2 : s.extract 0 p.size = p
          · have hE : ((s.extract 0 p.size).toList == p.toList) = true := by rw [beq_str, decide_eq_true h2]
            by_cases h3 : s[p.size]'hsp = 47
            · have h47 : (((s[p.size]'hsp).toNat : Int) != 47) = false := by rw [h3]; rfl
              have HI := Kept.mk (child_in hsp h2 h3)
              clear h2 h3 h1
              have hfr : ∀ W : World, (Instr.slice 9 (.string s) (some (.int .i64 ((p.size : Int) + 1))) none none).run Tryz.prog W = .ok (.string (s.extract (p.size + 1) s.size)) W := fun W => by
                rw [run_slice_string_from_if W 9 s .i64 _ Tryz.underlying9, if_pos ⟨by omega, by omega⟩, show ((p.size : Int) + 1).toNat = p.size + 1 by omega]
              have hnz : (s.extract (p.size + 1) s.size).size ≤ 9223372036854775807 := by rw [ByteArray.size_extract]; omega
              generalize s.extract (p.size + 1) s.size = n at hfr hnz HI
              have HPu : Kept ((47 : UInt8) ∉ toL n → ∀ v2 w2, Own.Es Value.string w2 w.heap.size v2 (names (t.take j) p ++ [n]) → wr.grownBy w2 u5.ownBlock → NamIn w w2 v2 t p (j + 1)) := ⟨fun h v2 w2 hE hg => hpush.out n v2 w2 (by rw [HI.out, if_pos h]) hE hg⟩
              have HSk : Kept (¬ (47 : UInt8) ∉ toL n → NamIn w wr u5 t p (j + 1)) := ⟨fun h => hskip.out (by rw [HI.out, if_neg h])⟩
              clear hskip hpush HI
              go_wp2
              go_loop [9, 10] (fun o i => ∃ (b : Bool) (k : Nat), k ≤ n.size ∧ o = .bool b ∧ i = .int .i64 k ∧ Kept (b = decide ((47 : UInt8) ∉ (toL n).take k))) (fun _ i => n.size - (intOf i).toNat)
              case atStart => exact ⟨true, 0, by omega, rfl, rfl, ⟨by simp⟩⟩
              case round =>
                obtain ⟨b, k, hk, rfl, rfl, hb⟩ := hrel
                have k0 : (0 : Int) ≤ k := by omega
                by_cases hkn : k < n.size
                · have k1 : (k : Int) < n.size := by omega
                  have hsn : (toL n).take (k + 1) = (toL n).take k ++ [n[k]'hkn] := by
                    rw [List.take_succ_eq_append_getElem (by rw [toL_length]; exact hkn)]
                    rfl
                  cases b
                  · have HB : Kept (false = decide ((47 : UInt8) ∉ (toL n).take (k + 1))) := ⟨by
                      have := hb.out
                      rw [eq_comm, decide_eq_false_iff_not] at this
                      rw [eq_comm, decide_eq_false_iff_not, hsn]
                      intro h
                      exact this (fun h2 => h (List.mem_append_left _ h2))⟩
                    clear hsn
                    go_wp2
                    go_round
                    case rel => exact ⟨false, k + 1, by omega, rfl, by go_num, HB⟩
                    case measure => simp [intOf]; omega
                  · have HB : Kept ((((n[k]'hkn).toNat : Int) != 47) = decide ((47 : UInt8) ∉ (toL n).take (k + 1))) := ⟨by
                      have h1 := hb.out
                      rw [eq_comm, decide_eq_true_iff] at h1
                      rw [hsn, Bool.eq_iff_iff, bne_iff_ne, decide_eq_true_iff, List.mem_append, not_or]
                      constructor
                      · intro h
                        refine ⟨h1, fun h2 => h ?_⟩
                        rw [← List.mem_singleton.1 h2]
                        rfl
                      · rintro ⟨_, h2⟩ h
                        apply h2
                        rw [List.mem_singleton]
                        exact (UInt8.toNat_inj.1 (show _ = 47 by omega)).symm⟩
                    clear hsn
                    go_wp2
                    go_round
                    case rel => exact ⟨_, k + 1, by omega, rfl, by go_num, HB⟩
                    case measure => simp [intOf]; omega
                · have k1 : ¬ (k : Int) < n.size := by omega
                  have hall : (toL n).take k = toL n := List.take_of_length_le (by rw [toL_length]; omega)
                  have HB : Kept (b = decide ((47 : UInt8) ∉ toL n)) := ⟨by rw [hb.out, hall]⟩
                  clear hall hb
                  cases b
                  · have HN := Kept.mk (HSk.out (by have := HB.out; rw [eq_comm, decide_eq_false_iff_not] at this; exact this))
                    go_wp2
                    go_roundw
                    case rel => exact ⟨j + 1, by omega, by go_num, HN⟩
                    case measure => simp [intOf]; omega
                  · have HM : Kept ((47 : UInt8) ∉ toL n) := ⟨by have := HB.out; rw [eq_comm, decide_eq_true_iff] at this; exact this⟩
                    have HF : Kept ((names (t.take j) p).length ≤ 1000000) := ⟨names_few t p j ht⟩
                    go_wp2_with (at_builtin; refine Own.wpList_append1 Tup.strTy Tup.str_one rfl _ _ rfl rfl hD.out.es hD.out.below.size n _ rfl rfl (by have := HF.out; omega) (by have := HF.out; unfold maxLen; omega) ?_; intro v2 w2 hE2 hg2 _; have hE3 := Kept.mk (HPu.out HM.out v2 w2 hE2 hg2); clear hE2 hg2)
                    go_roundw
                    case rel => exact ⟨j + 1, by omega, by go_num, hE3⟩
                    case measure => simp [intOf]; omega
            · have h47 : (((s[p.size]'hsp).toNat : Int) != 47) = true := by
                rw [bne_iff_ne]
                exact fun e => h3 (UInt8.toNat_inj.1 (show _ = 47 by omega))
              have HN := Kept.mk (hskip.out (child_byte hsp h3))
              clear h2 h3 h1
              go_wp2
              go_roundw
              case rel => exact ⟨j + 1, by omega, by go_num, HN⟩
              case measure => simp [intOf]; omega
          · have hE : ((s.extract 0 p.size).toList == p.toList) = false := by rw [beq_str, decide_eq_false h2]
            have HN := Kept.mk (hskip.out (child_pre h2))
            clear h2 h1
            go_wp2
            go_roundw
            case rel => exact ⟨j + 1, by omega, by go_num, HN⟩
            case measure => simp [intOf]; omega
      · have i1 : ¬ (j : Int) < (t.length : Int) := by omega
        go_wp2
        go_ret
        exact ⟨_, rfl, ⟨by have := hD.out.es; rwa [List.take_of_length_le (by omega)] at this⟩, hD.out.below⟩

set_option maxRecDepth 100000 in
theorem refNames_any (r : Nat) (lv : Value) (t : Tree) (p : ByteArray) (w : World) (h : RSto w r lv t) (ht : t.length ≤ 1000000) (hp : p.size ≤ 1000000000000000) :
    Calls Tryz.prog 25 #[.pointer (some ⟨r, 0, none⟩), .string p] w fun e w' => ∃ v, e = .returned v ∧ Kept (Own.Es Value.string w' w.heap.size v (names t p)) ∧ Below w.heap.size w w' := by
  have H := Kept.mk h
  clear h
  go_enter Tryz.func25, Tryz.ntmps25
  go_wp2_with (first
    | (go_at_call 47
       refine (refTouch_any r lv t p true _ H.out).mono ?_
       rintro e w1 ⟨rfl, hb1⟩
       have HB1 := Kept.mk hb1
       have H1 := Kept.mk (H.out.below hb1)
       have c0 := H1.out.c0
       clear hb1)
    | (go_at_call 49
       refine (refNamesIn_any lv t p _ H1.out.list ht hp H1.out.sz).mono ?_
       rintro e w2 ⟨v, rfl, hv, hb2⟩
       have HB2 := Kept.mk hb2
       clear hb2))
  go_ret
  exact ⟨v, rfl, ⟨hv.out.more HB1.out.size⟩, HB1.out.trans (HB2.out.mono HB1.out.size)⟩
end St
end Go.Proofs.YtjmblgahoejoiaaGreatDoor
