/-
  The document's tokens; two lists of tokens that are alike.
-/
import Derived.Test.YtnafecdionhnfaaDoorRl1
import Derived.Test.YtnafecdionhnfaaDoorPl7
import Derived.Laws.StructEq
namespace Go.Proofs.YtnafecdionhnfaaDoor
open Go.RowKit Tx
namespace Lx

set_option maxRecDepth 100000 in
theorem ends_any (c : UInt8) (w : World) (t : Bool) (ht : t = stops c) : Calls Tryd.prog 16 #[.int .u8 (c.toNat : Int)] w fun e w' => e = .returned (.bool t) ∧ w = w' := by
  by_cases h32 : c = 32
  · subst h32
    obtain rfl : t = true := ht
    go_enter Tryd.func16, Tryd.ntmps16
    go_wp2_with fail
    go_ret
    exact ⟨rfl, rfl⟩
  have z32 : (((c.toNat : Nat) : Int) == 32) = false := nat_nbyte (k := 32) h32 (by omega)
  by_cases h9 : c = 9
  · subst h9
    obtain rfl : t = true := ht
    go_enter Tryd.func16, Tryd.ntmps16
    go_wp2_with fail
    go_ret
    exact ⟨rfl, rfl⟩
  have z9 : (((c.toNat : Nat) : Int) == 9) = false := nat_nbyte (k := 9) h9 (by omega)
  by_cases h10 : c = 10
  · subst h10
    obtain rfl : t = true := ht
    go_enter Tryd.func16, Tryd.ntmps16
    go_wp2_with fail
    go_ret
    exact ⟨rfl, rfl⟩
  have z10 : (((c.toNat : Nat) : Int) == 10) = false := nat_nbyte (k := 10) h10 (by omega)
  by_cases h59 : c = 59
  · subst h59
    obtain rfl : t = true := ht
    go_enter Tryd.func16, Tryd.ntmps16
    go_wp2_with fail
    go_ret
    exact ⟨rfl, rfl⟩
  have z59 : (((c.toNat : Nat) : Int) == 59) = false := nat_nbyte (k := 59) h59 (by omega)
  by_cases h124 : c = 124
  · subst h124
    obtain rfl : t = true := ht
    go_enter Tryd.func16, Tryd.ntmps16
    go_wp2_with fail
    go_ret
    exact ⟨rfl, rfl⟩
  have z124 : (((c.toNat : Nat) : Int) == 124) = false := nat_nbyte (k := 124) h124 (by omega)
  by_cases h38 : c = 38
  · subst h38
    obtain rfl : t = true := ht
    go_enter Tryd.func16, Tryd.ntmps16
    go_wp2_with fail
    go_ret
    exact ⟨rfl, rfl⟩
  have z38 : (((c.toNat : Nat) : Int) == 38) = false := nat_nbyte (k := 38) h38 (by omega)
  by_cases h40 : c = 40
  · subst h40
    obtain rfl : t = true := ht
    go_enter Tryd.func16, Tryd.ntmps16
    go_wp2_with fail
    go_ret
    exact ⟨rfl, rfl⟩
  have z40 : (((c.toNat : Nat) : Int) == 40) = false := nat_nbyte (k := 40) h40 (by omega)
  by_cases h41 : c = 41
  · subst h41
    obtain rfl : t = true := ht
    go_enter Tryd.func16, Tryd.ntmps16
    go_wp2_with fail
    go_ret
    exact ⟨rfl, rfl⟩
  have z41 : (((c.toNat : Nat) : Int) == 41) = false := nat_nbyte (k := 41) h41 (by omega)
  by_cases h60 : c = 60
  · subst h60
    obtain rfl : t = true := ht
    go_enter Tryd.func16, Tryd.ntmps16
    go_wp2_with fail
    go_ret
    exact ⟨rfl, rfl⟩
  have z60 : (((c.toNat : Nat) : Int) == 60) = false := nat_nbyte (k := 60) h60 (by omega)
  by_cases h62 : c = 62
  · subst h62
    obtain rfl : t = true := ht
    go_enter Tryd.func16, Tryd.ntmps16
    go_wp2_with fail
    go_ret
    exact ⟨rfl, rfl⟩
  have z62 : (((c.toNat : Nat) : Int) == 62) = false := nat_nbyte (k := 62) h62 (by omega)
  obtain rfl : t = false := by rw [ht]; unfold stops; simp [h32, h9, h10, h59, h124, h38, h40, h41, h60, h62]
  clear ht h32 h9 h10 h59 h124 h38 h40 h41 h60 h62
  go_enter Tryd.func16, Tryd.ntmps16
  go_wp2_with fail
  go_ret
  exact ⟨rfl, rfl⟩
theorem opers_at (k : Nat) (hk : k < 11) : ∃ o, opers[k]? = some o ∧ opVals[k]? = some (.string (bs o)) ∧ o.length ≤ 2 := by
  match k, hk with
  | 0, _ => exact ⟨_, rfl, rfl, by decide⟩
  | 1, _ => exact ⟨_, rfl, rfl, by decide⟩
  | 2, _ => exact ⟨_, rfl, rfl, by decide⟩
  | 3, _ => exact ⟨_, rfl, rfl, by decide⟩
  | 4, _ => exact ⟨_, rfl, rfl, by decide⟩
  | 5, _ => exact ⟨_, rfl, rfl, by decide⟩
  | 6, _ => exact ⟨_, rfl, rfl, by decide⟩
  | 7, _ => exact ⟨_, rfl, rfl, by decide⟩
  | 8, _ => exact ⟨_, rfl, rfl, by decide⟩
  | 9, _ => exact ⟨_, rfl, rfl, by decide⟩
  | 10, _ => exact ⟨_, rfl, rfl, by decide⟩
  | k + 11, h => omega
set_option maxRecDepth 100000 in
theorem sign_any (s : ByteArray) (p : Nat) (w : World) (hs : s.size ≤ 20000) (hp : p ≤ s.size) (o : List UInt8) (HL : Kept (lead ((toL s).drop p) = some o)) :
    Calls Tryd.prog 17 #[.string s, .int .i64 (p : Int)] w fun e w' => ∃ x : ByteArray, e = .returned (.string x) ∧ Kept (x = bs o) ∧ Below w.heap.size w w' := by
  go_enter Tryd.func17, Tryd.ntmps17
  go_wp2_with fail
  have HB0 : Kept ((w.alloc (.cells opVals 9)).heap[w.heap.size]? = some (.cells opVals 9 (0, 0))) := ⟨heap_alloc_new w _⟩
  have HBe : Kept (Below w.heap.size w (w.alloc (.cells opVals 9))) := ⟨(Below.refl _ _).alloc (Nat.le_refl _) _⟩
  unfold opVals at HB0 HBe
  generalize hw1 : w.alloc _ = w1 at HB0 HBe ⊢
  clear hw1
  go_loop [6] (fun i => ∃ k : Nat, k ≤ 11 ∧ i = .int .i64 (k : Int) ∧ Kept (lead ((toL s).drop p) = (opers.drop k).find? fun o => o.isPrefixOf ((toL s).drop p))) (fun i => 11 - (intOf i).toNat)
  case atStart => exact ⟨0, by omega, rfl, ⟨rfl⟩⟩
  case round =>
    obtain ⟨k, hk, rfl, HE⟩ := hrel
    by_cases hlt : k < 11
    · obtain ⟨o1, ho1, hv1, hl1⟩ := opers_at k hlt
      have hd : opers.drop k = o1 :: opers.drop (k + 1) := by
        obtain ⟨h1, h2⟩ := List.getElem?_eq_some_iff.1 ho1
        rw [List.drop_eq_getElem_cons h1, h2]
      have z : (k : Int) < 11 := by omega
      have c : w1.cell? ⟨w.heap.size, k, none⟩ = some (.string (bs o1)) := (cell_of_row _ _ k _ _ _ HB0.out).trans hv1
      have HBs : Kept ((bs o1).size ≤ 20000) := ⟨by rw [bs_size]; omega⟩
      cases hpx : o1.isPrefixOf ((toL s).drop p) with
      | true =>
        have HP : Kept (true = (toL (bs o1)).isPrefixOf ((toL s).drop p)) := ⟨by rw [toL_bs]; exact hpx.symm⟩
        have HR : Kept (o = o1) := ⟨by have := HL.out; rw [HE.out, hd, List.find?_cons, hpx] at this; exact (Option.some.inj this).symm⟩
        clear hpx hd ho1 hv1 HE hl1
        go_wp2_with (go_at_call 26; refine (begins_any s (bs o1) p _ true hs HBs.out hp HP.out).mono ?_; rintro e w2 ⟨rfl, rfl⟩)
        go_ret
        exact ⟨_, rfl, ⟨by rw [HR.out]⟩, HBe.out⟩
      | false =>
        have HP : Kept (false = (toL (bs o1)).isPrefixOf ((toL s).drop p)) := ⟨by rw [toL_bs]; exact hpx.symm⟩
        have HL2 : Kept (lead ((toL s).drop p) = (opers.drop (k + 1)).find? fun o => o.isPrefixOf ((toL s).drop p)) := ⟨by rw [HE.out, hd, List.find?_cons, hpx]⟩
        clear hpx hd ho1 hv1 HE hl1
        go_wp2_with (go_at_call 26; refine (begins_any s (bs o1) p _ false hs HBs.out hp HP.out).mono ?_; rintro e w2 ⟨rfl, rfl⟩)
        go_round
        case rel => exact ⟨k + 1, by omega, by go_num, HL2⟩
        case measure => simp [intOf]; omega
    · obtain rfl : k = 11 := by omega
      exfalso
      have := HL.out
      rw [HE.out] at this
      cases this

/-- The document's round: what was gathered, in the call's own row. -/
structure RT (w wr : World) (v : Value) (ts : List Tok) : Prop where
  own : wr.ownsRow w.heap.size 35 2 v ts.length (tvs ts)
  bel : Below w.heap.size w wr
theorem RT.go {w wr w2 : World} {v v2 : Value} {ts : List Tok} {x : Tok} {o : Obj} (h : RT w wr v ts) (hg : (wr.alloc o).grownBy w2 v.ownBlock) (ho : w2.ownsRow w.heap.size 35 2 v2 (ts.length + 1) (tvs ts ++ tv x)) : RT w w2 v2 (ts ++ [x]) := by
  refine ⟨?_, ?_⟩
  · rw [List.length_append, tvs_snoc]; exact ho
  · have hz := h.bel.size
    have hs := hg.size
    rw [World.size_alloc] at hs
    refine ⟨hg.os.trans h.bel.os, hg.tape.trans h.bel.tape, hg.output.trans h.bel.output, by omega, fun i hi => ?_⟩
    refine ((hg.block i (by simp; omega) (fun e => ?_)).trans (Below.heap_alloc wr o i (by omega))).trans (h.bel.block i hi)
    rcases h.own.2 with ⟨rfl, _⟩ | ⟨k, cap, cur, rfl, hB, _⟩
    · cases e
    · have e2 : i = k := by injection e
      omega
set_option maxHeartbeats 4000000 in
set_option maxRecDepth 100000 in
theorem refTokens_any (s : ByteArray) (w : World) (hs : s.size ≤ 20000) (o : Option (List Tok)) (HO : Kept (o = toks (toL s))) :
    Calls Tryd.prog 10 #[.string s] w (TokE w o) := by
  obtain ⟨i0, hi, hz0, hz1, hz2⟩ := info_parts tokInfo
  have HS := Kept.mk hs
  go_enter Tryd.func10, Tryd.ntmps10
  go_wp2_with fail
  go_loopw [4, 5] (fun v i wr => ∃ (p : Nat) (ts : List Tok), p ≤ s.size ∧ i = .int .i64 (p : Int) ∧ Kept (Left (toL s) ts ((toL s).drop p)) ∧ Kept (RT w wr v ts)) (fun _ i _ => s.size - (intOf i).toNat)
  case atStart => exact ⟨0, [], by omega, rfl, ⟨Left.start _⟩, ⟨⟨World.ownsRow_nil _ _ _ _, Below.refl _ _⟩⟩⟩
  case round =>
    obtain ⟨p, ts, hp, rfl, HL, HR⟩ := hrel
    have HTl : Kept (ts.length ≤ 20000) := ⟨left_len HL.out hs⟩
    by_cases hlt : p < s.size
    · have z : (p : Int) < s.size := by omega
      have HLT := Kept.mk hlt
      have h1 : Left (toL s) ts (s[p]'hlt :: (toL s).drop (p + 1)) := by rw [← drop_at hlt]; exact HL.out
      by_cases h32 : s[p]'hlt = 32
      · have y : (((s[p]'hlt).toNat : Nat) : Int) = 32 := nat_byte (k := 32) h32 (by omega)
        have HN : Kept (Left (toL s) ts ((toL s).drop (p + 1))) := ⟨h1.blank (.inl h32)⟩
        clear h1 h32
        go_wp2_with fail
        go_roundw
        case rel => exact ⟨p + 1, ts, by omega, by go_num, HN, HR⟩
        case measure => simp [intOf]; omega
      · have y32 : ((((s[p]'hlt).toNat : Nat) : Int) == 32) = false := nat_nbyte (k := 32) h32 (by omega)
        by_cases h9 : s[p]'hlt = 9
        · have y : (((s[p]'hlt).toNat : Nat) : Int) = 9 := nat_byte (k := 9) h9 (by omega)
          have HN : Kept (Left (toL s) ts ((toL s).drop (p + 1))) := ⟨h1.blank (.inr h9)⟩
          clear h1 h32 h9 y32
          go_wp2_with fail
          go_roundw
          case rel => exact ⟨p + 1, ts, by omega, by go_num, HN, HR⟩
          case measure => simp [intOf]; omega
        · have y9 : ((((s[p]'hlt).toNat : Nat) : Int) == 9) = false := nat_nbyte (k := 9) h9 (by omega)
          by_cases h35 : s[p]'hlt = 35
          · have y : (((s[p]'hlt).toNat : Nat) : Int) = 35 := nat_byte (k := 35) h35 (by omega)
            have HN : Kept (Left (toL s) ts (((toL s).drop p).dropWhile (· ≠ 10))) := ⟨by
              rw [h35] at h1
              have h2 := h1.comment
              rw [drop_at hlt, List.dropWhile_cons, if_pos (by rw [h35]; decide)]
              exact h2⟩
            clear h1 h32 h9 y32 y9 h35
            go_wp2_with fail
            go_loop [5] (fun i => ∃ k : Nat, p ≤ k ∧ k ≤ s.size ∧ i = .int .i64 (k : Int) ∧ Kept (((toL s).drop p).dropWhile (· ≠ 10) = ((toL s).drop k).dropWhile (· ≠ 10)) ∧ Kept (k = p → s[p]'hlt = 35)) (fun i => s.size - (intOf i).toNat)
            case atStart => exact ⟨p, by omega, by omega, rfl, ⟨rfl⟩, ⟨fun _ => UInt8.toNat_inj.1 (show (s[p]'hlt).toNat = 35 by omega)⟩⟩
            case round =>
              obtain ⟨k, hk1, hk2, rfl, HW, HP⟩ := hrel
              by_cases hltk : k < s.size
              · have zk : (k : Int) < s.size := by omega
                by_cases hk10 : s[k]'hltk = 10
                · have x : (((s[k]'hltk).toNat : Nat) : Int) = 10 := nat_byte (k := 10) hk10 (by omega)
                  have HN2 : Kept (Left (toL s) ts ((toL s).drop k)) := ⟨by
                    have := HN.out
                    rw [HW.out, drop_at hltk, hk10, List.dropWhile_cons, if_neg (by decide), ← hk10, ← drop_at hltk] at this
                    exact this⟩
                  have HPk : Kept (p < k) := ⟨by
                    rcases Nat.lt_or_ge p k with h | h
                    · exact h
                    · obtain rfl : k = p := by omega
                      have := HP.out rfl
                      rw [hk10] at this
                      exact absurd this (by decide)⟩
                  clear hk10
                  go_wp2_with fail
                  go_roundw
                  case rel => exact ⟨k, ts, by omega, rfl, HN2, HR⟩
                  case measure => have := HPk.out; simp [intOf]; omega
                · have x : ((((s[k]'hltk).toNat : Nat) : Int) == 10) = false := nat_nbyte (k := 10) hk10 (by omega)
                  have x2 : ((((s[k]'hltk).toNat : Nat) : Int) != 10) = true := by unfold bne; rw [x]; rfl
                  have HW2 : Kept (((toL s).drop p).dropWhile (· ≠ 10) = ((toL s).drop (k + 1)).dropWhile (· ≠ 10)) := ⟨by rw [HW.out, drop_at hltk, List.dropWhile_cons, if_pos (by simpa using hk10)]⟩
                  clear hk10 HW
                  go_wp2_with fail
                  go_round
                  case rel => exact ⟨k + 1, by omega, by omega, by go_num, HW2, ⟨fun e => absurd e (by omega)⟩⟩
                  case measure => simp [intOf]; omega
              · have zk : ¬ (k : Int) < s.size := by omega
                have zk2 : decide ((k : Int) < s.size) = false := decide_eq_false zk
                have HN2 : Kept (Left (toL s) ts ((toL s).drop k)) := ⟨by
                  have := HN.out
                  rw [HW.out, drop_end (by omega)] at this
                  rw [drop_end (by omega)]
                  exact this⟩
                have HPk : Kept (p < k) := ⟨by omega⟩
                clear hltk
                go_wp2_with fail
                go_roundw
                case rel => exact ⟨k, ts, by omega, rfl, HN2, HR⟩
                case measure => have := HPk.out; simp [intOf]; omega
          · have y35 : ((((s[p]'hlt).toNat : Nat) : Int) == 35) = false := nat_nbyte (k := 35) h35 (by omega)
            by_cases h10 : s[p]'hlt = 10
            · have y : (((s[p]'hlt).toNat : Nat) : Int) = 10 := nat_byte (k := 10) h10 (by omega)
              have HN : Kept (Left (toL s) (ts ++ [⟨2, [10]⟩]) ((toL s).drop (p + 1))) := ⟨by rw [h10] at h1; exact h1.line⟩
              clear h1 h32 h9 y32 y9 h35 y35 h10
              go_wp2_with (at_builtin
                           refine wpList_append_own _ rfl _ _ 26 rfl w.heap.size 35 i0 _ 2 24 Tryd.underlying26 hi hz0 hz1 hz2 rfl (by decide) _ _ _ rfl (own_keep HR.out.own fun g _ h2 => Below.heap_alloc wr _ g h2) ⟨wr.heap.size, 0, none⟩ 1 1 (tv ⟨2, [10]⟩) rfl rfl (tv_new wr ⟨2, [10]⟩ _) (tv_one _) (by unfold maxLen; have := HTl.out; omega) (by have := HTl.out; omega) (by have := HR.out.bel.size; simp; omega) ?_
                           intro v2 w2 ho2 hg2 hnn
                           have HR2 : Kept (RT w w2 v2 (ts ++ [⟨2, [10]⟩])) := ⟨HR.out.go hg2 ho2⟩
                           clear ho2 hg2 hnn)
              go_roundw
              case rel => exact ⟨p + 1, _, by omega, by go_num, HN, HR2⟩
              case measure => simp [intOf]; omega
            · have y10 : ((((s[p]'hlt).toNat : Nat) : Int) == 10) = false := nat_nbyte (k := 10) h10 (by omega)
              have hpl : plain (s[p]'hlt) := ⟨h32, h9, h35, h10⟩
              cases hld : lead ((toL s).drop p) with
              | some op =>
                have hls := lead_some hld
                have hld2 := hld
                rw [drop_at hlt] at hld2
                have HN : Kept (Left (toL s) (ts ++ [⟨1, op⟩]) ((toL s).drop (p + op.length))) := ⟨by
                  have h2 := h1.op hpl hld2
                  rw [← drop_at hlt, List.drop_drop] at h2
                  exact h2⟩
                have HSt : Kept (true = stops (s[p]'hlt)) := ⟨by
                  rw [stops_is]
                  rw [lead_is] at hld2
                  split at hld2
                  · rename_i h; simp [h]
                  · cases hld2⟩
                have HLd := Kept.mk hld
                have HPo : Kept (1 ≤ op.length ∧ op.length + p ≤ s.size) := ⟨by have := hls.2.1; rw [List.length_drop, toL_length] at this; have := hls.1; omega⟩
                clear h1 h32 h9 h35 h10 hpl hld hld2 hls
                go_wp2_with (first
                  | (go_at_call 16; refine (ends_any _ _ true HSt.out).mono ?_; rintro e0 w3 ⟨rfl, rfl⟩)
                  | (go_at_call 17; refine (sign_any s p _ HS.out hp op HLd).mono ?_; rintro e0 w3 ⟨x, rfl, hx, hb3⟩; have HX := hx; have HR3 : Kept (RT w w3 _ ts) := ⟨⟨own_keep HR.out.own (fun g _ h2 => hb3.block g h2), HR.out.bel.trans (hb3.mono HR.out.bel.size)⟩⟩; have hxs : x.size = op.length := (by rw [HX.out]; exact bs_size _); have hol : (op.length : Int) ≤ 20000 := (by have := HPo.out; omega); clear hx hb3)
                  | (at_builtin
                     refine wpList_append_own _ rfl _ _ 26 rfl w.heap.size 35 i0 _ 2 24 Tryd.underlying26 hi hz0 hz1 hz2 rfl (by decide) _ _ _ rfl (own_keep HR3.out.own fun g _ h2 => Below.heap_alloc w3 _ g h2) ⟨w3.heap.size, 0, none⟩ 1 1 (tv ⟨1, op⟩) rfl rfl (by rw [HX.out]; exact tv_new w3 ⟨1, op⟩ _) (tv_one _) (by unfold maxLen; have := HTl.out; omega) (by have := HTl.out; omega) (by have := HR3.out.bel.size; simp; omega) ?_
                     intro v2 w2 ho2 hg2 hnn
                     have HR2 : Kept (RT w w2 v2 (ts ++ [⟨1, op⟩])) := ⟨HR3.out.go hg2 ho2⟩
                     clear ho2 hg2 hnn))
                go_roundw
                case rel => exact ⟨p + op.length, _, by have := HPo.out; omega, by go_num, HN, HR2⟩
                case measure => have := HPo.out; simp [intOf]; omega
              | none =>
                have hst : stops (s[p]'hlt) = false := lead_none (by rw [← drop_at hlt]; exact hld) h32 h9 h10
                have HSt : Kept (false = stops (s[p]'hlt)) := ⟨hst.symm⟩
                obtain ⟨ow, how⟩ : ∃ ow, ow = wordAt (toL s) p := ⟨_, rfl⟩
                have HOw := Kept.mk how
                have HNo : Kept (ow = none → o = none) := ⟨fun h => by
                  rw [HO.out]
                  refine h1.bad hpl (by rw [← drop_at hlt]; exact hld) ?_
                  rw [how] at h
                  unfold wordAt at h
                  rw [drop_at hlt] at h
                  simpa using h⟩
                have HYes : Kept (∀ q, ow = some q → Left (toL s) (ts ++ [⟨0, ((toL s).drop p).take (q - p)⟩]) ((toL s).drop q) ∧ p < q) := ⟨fun q h => by
                  rw [how] at h
                  unfold wordAt at h
                  obtain ⟨k, hk, rfl⟩ := Option.map_eq_some_iff.1 h
                  have h2 := h1.word hpl (by rw [← drop_at hlt]; exact hld) (by rw [← drop_at hlt]; exact hk)
                  rw [← drop_at hlt, List.drop_drop] at h2
                  have h3 := word_pos hst (by rw [← drop_at hlt]; exact hk)
                  rw [show p + k - p = k by omega]
                  exact ⟨h2, by omega⟩⟩
                clear how h1 h32 h9 h35 h10 hpl hld hst
                go_wp2_with (go_at_call 16; refine (ends_any _ _ false HSt.out).mono ?_; rintro e0 w3 ⟨rfl, rfl⟩)
                go_loop [5] (fun i => ∃ k : Nat, p ≤ k ∧ k ≤ s.size ∧ i = .int .i64 (k : Int) ∧ Kept (ow = wordAt (toL s) k)) (fun i => s.size - (intOf i).toNat)
                case atStart => exact ⟨p, by omega, by omega, rfl, HOw⟩
                case round =>
                  obtain ⟨k, hk1, hk2, rfl, HW⟩ := hrel
                  by_cases hltk : k < s.size
                  · have zk : (k : Int) < s.size := by omega
                    have HLk := Kept.mk hltk
                    cases hsk : stops (s[k]'hltk) with
                    | true =>
                      have HSk : Kept (true = stops (s[k]'hltk)) := ⟨hsk.symm⟩
                      have HY := Kept.mk (HYes.out k (by rw [HW.out, wordAt_stop hltk hsk]))
                      clear hsk
                      have hsl : ∀ W : World, (Instr.slice 9 (.string s) (some (.int .i64 (p : Int))) (some (.int .i64 (k : Int))) none).run Tryd.prog W = .ok (.string (s.extract p k)) W := fun W => by
                        rw [run_slice_string_if W 9 s .i64 .i64 _ _ Tryd.underlying9, if_pos ⟨by omega, by omega⟩, if_pos ⟨by omega, by omega⟩, Int.toNat_natCast, Int.toNat_natCast]
                      have HX : Kept (s.extract p k = bs (((toL s).drop p).take (k - p))) := ⟨by rw [← toL_extract, bs_toL]⟩
                      go_wp2_with (first
                        | (go_at_call 16; refine (ends_any _ _ true HSk.out).mono ?_; rintro e0 w3 ⟨rfl, rfl⟩)
                        | (at_builtin
                           refine wpList_append_own _ rfl _ _ 26 rfl w.heap.size 35 i0 _ 2 24 Tryd.underlying26 hi hz0 hz1 hz2 rfl (by decide) _ _ _ rfl (own_keep HR.out.own fun g _ h2 => Below.heap_alloc wr _ g h2) ⟨wr.heap.size, 0, none⟩ 1 1 (tv ⟨0, ((toL s).drop p).take (k - p)⟩) rfl rfl (by rw [HX.out]; exact tv_new wr ⟨0, ((toL s).drop p).take (k - p)⟩ _) (tv_one _) (by unfold maxLen; have := HTl.out; omega) (by have := HTl.out; omega) (by have := HR.out.bel.size; simp; omega) ?_
                           intro v2 w2 ho2 hg2 hnn
                           have HR2 : Kept (RT w w2 v2 (ts ++ [⟨0, ((toL s).drop p).take (k - p)⟩])) := ⟨HR.out.go hg2 ho2⟩
                           clear ho2 hg2 hnn))
                      go_roundw
                      case rel => exact ⟨k, _, by omega, rfl, ⟨HY.out.1⟩, HR2⟩
                      case measure => have := HY.out.2; simp [intOf]; omega
                    | false =>
                      have HSk : Kept (false = stops (s[k]'hltk)) := ⟨hsk.symm⟩
                      cases hu : unitAt 30 0 (toL s) k with
                      | none =>
                        have HF : Kept (o = none) := ⟨HNo.out (by rw [HW.out, wordAt_bad hltk hsk hu])⟩
                        have HUv := Kept.mk hu
                        clear hsk hu
                        go_wp2_with (first
                          | (go_at_call 16; refine (ends_any _ _ false HSk.out).mono ?_; rintro e0 w3 ⟨rfl, rfl⟩)
                          | (go_at_call 18; refine ((both_any 30).1 1 k s _ _ _ rfl rfl rfl HLk.out HS.out).mono ?_; rw [HUv.out]; rintro e1 w1 ⟨rfl, rfl⟩; dsimp only [ansN]))
                        go_ret2
                        obtain rfl := HF.out
                        exact ⟨rfl, HR.out.bel⟩
                      | some q =>
                        have hq := unitAt_le hu
                        have HW2 : Kept (ow = wordAt (toL s) q) := ⟨by rw [HW.out, wordAt_on hltk hsk hu]⟩
                        have HUv := Kept.mk hu
                        clear hsk hu HW
                        go_wp2_with (first
                          | (go_at_call 16; refine (ends_any _ _ false HSk.out).mono ?_; rintro e0 w3 ⟨rfl, rfl⟩)
                          | (go_at_call 18; refine ((both_any 30).1 1 k s _ _ _ rfl rfl rfl HLk.out HS.out).mono ?_; rw [HUv.out]; rintro e1 w1 ⟨rfl, rfl⟩; dsimp only [ansN]))
                        go_round
                        case rel => exact ⟨q, by omega, by omega, rfl, HW2⟩
                        case measure => simp [intOf]; omega
                  · have zk : ¬ (k : Int) < s.size := by omega
                    have zk2 : decide ((k : Int) < s.size) = false := decide_eq_false zk
                    have HY := Kept.mk (HYes.out k (by rw [HW.out, wordAt_end (by omega)]))
                    clear hltk
                    have hsl : ∀ W : World, (Instr.slice 9 (.string s) (some (.int .i64 (p : Int))) (some (.int .i64 (k : Int))) none).run Tryd.prog W = .ok (.string (s.extract p k)) W := fun W => by
                      rw [run_slice_string_if W 9 s .i64 .i64 _ _ Tryd.underlying9, if_pos ⟨by omega, by omega⟩, if_pos ⟨by omega, by omega⟩, Int.toNat_natCast, Int.toNat_natCast]
                    have HX : Kept (s.extract p k = bs (((toL s).drop p).take (k - p))) := ⟨by rw [← toL_extract, bs_toL]⟩
                    go_wp2_with (first
                      | (at_builtin
                         refine wpList_append_own _ rfl _ _ 26 rfl w.heap.size 35 i0 _ 2 24 Tryd.underlying26 hi hz0 hz1 hz2 rfl (by decide) _ _ _ rfl (own_keep HR.out.own fun g _ h2 => Below.heap_alloc wr _ g h2) ⟨wr.heap.size, 0, none⟩ 1 1 (tv ⟨0, ((toL s).drop p).take (k - p)⟩) rfl rfl (by rw [HX.out]; exact tv_new wr ⟨0, ((toL s).drop p).take (k - p)⟩ _) (tv_one _) (by unfold maxLen; have := HTl.out; omega) (by have := HTl.out; omega) (by have := HR.out.bel.size; simp; omega) ?_
                         intro v2 w2 ho2 hg2 hnn
                         have HR2 : Kept (RT w w2 v2 (ts ++ [⟨0, ((toL s).drop p).take (k - p)⟩])) := ⟨HR.out.go hg2 ho2⟩
                         clear ho2 hg2 hnn))
                    go_roundw
                    case rel => exact ⟨k, _, by omega, rfl, ⟨HY.out.1⟩, HR2⟩
                    case measure => have := HY.out.2; simp [intOf]; omega
    · have hpe : p = s.size := by omega
      have zk : ¬ (p : Int) < s.size := by omega
      have HF : Kept (o = some ts) := ⟨by
        have := HL.out
        rw [drop_end (by omega)] at this
        rw [HO.out]
        exact this.done⟩
      clear hlt hpe
      obtain ⟨A, k, rfl, hR, _, hno⟩ := Rt.of_own HR.out.own
      have HRt := Kept.mk hR
      have HNo := Kept.mk hno
      clear hR hno
      go_wp2_with fail
      go_ret2
      obtain rfl := HF.out
      exact ⟨⟨A, k, rfl, HRt, HNo⟩, HR.out.bel⟩

theorem tokFields : (Tryd.prog.fieldsOf 35).toList = [{ name := "Kind", type := 3, offset := 0, embedded := false, tag := "", pkgPath := "", byteOffset := 0 }, { name := "Text", type := 9, offset := 1, embedded := false, tag := "", pkgPath := "", byteOffset := 8 }] := by kernel_rfl
theorem tok_ne (k : Int) (d : ByteArray) (w : World) : (binOp .neq 35 (.agg #[.int .i64 k, .string d]) (.agg #[.int .i64 k, .string d])).run Tryd.prog w = .ok (.bool false) w := by
  rw [run_neq_struct, run_equalIn_agg w 9999 35 _ _ (by kernel_rfl) (by kernel_rfl), tokFields]
  simp [Op.eqFields, go_sem]
set_option maxHeartbeats 1000000 in
set_option maxRecDepth 100000 in
theorem same_true (l : List Tok) (A C : Option Addr) (k q : Nat) (w : World) (h1 : Rt w A l) (h2 : Rt w C l) (hl : l.length ≤ 1000000) :
    Calls Tryd.prog 12 #[.slice A l.length k, .slice C l.length q] w fun e w' => e = .returned (.bool true) ∧ Qt w w' := by
  have H1 := Kept.mk h1
  have H2 := Kept.mk h2
  clear h1 h2
  generalize hn : l.length = n at *
  have HN := Kept.mk hn
  clear hn
  go_enter Tryd.func12, Tryd.ntmps12
  go_wp2_with fail
  go_loopw [5] (fun i wr => ∃ j : Nat, j ≤ n ∧ i = .int .i64 (j : Int) ∧ Kept (Qt w wr)) (fun i _ => n - (intOf i).toNat)
  case atStart => exact ⟨0, by omega, rfl, ⟨Qt.refl _⟩⟩
  case round =>
    obtain ⟨j, hj, rfl, HQ⟩ := hrel
    have j0 : (0 : Int) ≤ j := by omega
    by_cases hlt : j < n
    · have j1 : (j : Int) < (n : Int) := by omega
      have hjl : j < l.length := by have := HN.out; omega
      obtain ⟨g, e1, hg, c0, c1⟩ := (H1.out.below HQ.out.below) j hjl
      obtain ⟨g', e2, hg', d0, d1⟩ := (H2.out.below HQ.out.below) j hjl
      subst e1 e2
      have hne := fun w => tok_ne l[j].kind (bs l[j].text) w
      generalize l[j].kind = kk at *
      generalize bs l[j].text = dd at *
      clear hjl
      go_wp2_with fail
      go_quiet (fail)
      have HQ2 : Kept (Qt w (wr.drewN nq)) := ⟨HQ.out.drewN nq⟩
      go_wp2_with fail
      go_roundw
      case rel => exact ⟨j + 1, by omega, by go_num, HQ2⟩
      case measure => simp [intOf]; omega
    · have j1 : ¬ (j : Int) < (n : Int) := by omega
      clear hlt
      go_wp2_with fail
      go_ret
      exact ⟨rfl, HQ.out⟩
end Lx
end Go.Proofs.YtnafecdionhnfaaDoor
