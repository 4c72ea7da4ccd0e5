/-
  The document's dollar: what a dollar ahead begins.
-/
import Derived.Test.YtphgnjjblpmijaaDoorWraM
import Derived.Test.YtphgnjjblpmijaaDoorGx
namespace Go.Proofs.YtphgnjjblpmijaaDoor
open Go.RowKit Tx
namespace Wx
open Lx

theorem res_three {P : Program} {fn : Func} {p u x : Tmp} {ty : TypeId} (h : fn.results = #[.cell p ty, .tmp u, .tmp x]) (tmps : Array Value) (w : World) (g : Nat) (t : TypeId) (cs : Array Value) (fr : Nat × Nat) (d : TypeDesc)
    (hp : tmps.getD p undef = .pointer (some ⟨g, 0, none⟩)) (hg : w.heap[g]? = some (.cells cs t fr))
    (hu : P.underlying ty = some d) (hd : (match d with | .struct _ | .array _ _ => true | _ => false) = true) (hi : (P.info? ty).map (·.size) = some cs.size) :
    (results fn tmps).run P w = .ok (.tuple #[.agg cs, tmps.getD u undef, tmps.getD x undef]) w := by
  have hp' : tmps[p]?.getD undef = .pointer (some ⟨g, 0, none⟩) := by simpa using hp
  have hl := run_loadVar_row (P := P) w g t ty cs fr d hg hu hd hi
  simp only [results, h]
  simp [Result.andThen, hp', asAddr, hl]
/-- What dollar ends in. -/
def DEnd (w : World) (r : Except Int (Pt × Nat)) (e : Ending) (w' : World) : Prop :=
  match r with
  | .ok x => ∃ (kk : Int) (q : Bool) (t n o : List UInt8) (wd : List Pt) (A : Option Addr) (k : Nat), x.1 = .mk kk q t n o wd ∧ e = .returned (.tuple #[.agg #[.int .i64 kk, .bool q, .string (bs t), .string (bs n), .string (bs o), .slice A wd.length k], .int .i64 (x.2 : Int), .int .i64 0]) ∧ Kept (LV (Nw w.heap.size) w' (.slice A wd.length k) wd) ∧ Below w.heap.size w w'
  | .error c => ∃ (kk : Int) (q : Bool) (t n o : ByteArray) (k : Int), e = .returned (.tuple #[.agg #[.int .i64 kk, .bool q, .string t, .string n, .string o, .slice none 0 0], .int .i64 k, .int .i64 c]) ∧ (c == 0) = false ∧ Below w.heap.size w w'
/-- The result's box. -/
structure DbM (w w' : World) : Prop where
  r0 : w'.heap[w.heap.size]? = some (.cells #[.int .i64 0, .bool false, .string ⟨#[]⟩, .string ⟨#[]⟩, .string ⟨#[]⟩, .slice none 0 0] 39 (0, 0))
  bl : Below w.heap.size w w'
theorem DbM.begin (w : World) : DbM w (w.alloc (.cells #[.int .i64 0, .bool false, .string ⟨#[]⟩, .string ⟨#[]⟩, .string ⟨#[]⟩, .slice none 0 0] 39)) := ⟨heap_alloc_new w _, (Below.refl _ _).alloc (Nat.le_refl _) _⟩
theorem DbM.below {w w1 w2 : World} (h : DbM w w1) (hb : Below w1.heap.size w1 w2) : DbM w w2 := ⟨(hb.block _ (Array.getElem?_eq_some_iff.1 h.r0).1).trans h.r0, h.bl.trans (hb.mono h.bl.size)⟩
theorem DbM.row {w w1 : World} (h : DbM w w1) (cs : Array Value) : (w1.setRow w.heap.size cs).heap[w.heap.size]? = some (.cells cs 39 (0, 0)) ∧ Below w.heap.size w (w1.setRow w.heap.size cs) :=
  ⟨setRow_heap _ _ _ cs _ _ h.r0, h.bl.os, h.bl.tape, h.bl.output, by rw [setRow_size]; exact h.bl.size, fun i hi => (setRow_other _ _ i _ (by omega)).trans (h.bl.block i hi)⟩
theorem LV.far1 {w w1 : World} {m : Nat} {v : Value} {l : List Pt} (h : LV (Nw m) w1 v l) (hm : w.heap.size + 1 ≤ m) (cs : Array Value) : LV (Nw w.heap.size) (w1.setRow w.heap.size cs) v l :=
  h.same (fun g hP hg => ⟨show w.heap.size ≤ g from by have : m ≤ g := hP; omega, setRow_other _ _ g _ (by have : m ≤ g := hP; omega)⟩) (by rw [setRow_size]; exact Nat.le_refl _)
theorem head_at {s : ByteArray} {p : Nat} (hp : p < s.size) : ((toL s).drop p).head? = some (s[p]'hp) := by rw [drop_at hp]; rfl
theorem two_at {s : ByteArray} (h0 : 0 < s.size) (h1 : 1 < s.size) : toL s = s[0]'h0 :: s[1]'h1 :: (toL s).drop 2 := by
  have e := drop_at h0
  rw [List.drop_zero, Nat.zero_add, drop_at h1] at e
  exact e
theorem unit_three {c : UInt8} {r : List UInt8} {k : Nat} (h : unit 30 0 (36 :: c :: r) = some k) (hc : c = 40 ∨ c = 123) : 3 ≤ k := by
  rcases hc with rfl | rfl
  · rw [unit_par 29] at h
    obtain ⟨j, hj, rfl⟩ := Option.map_eq_some_iff.1 h
    have := nest_le hj
    omega
  · rw [unit_brace 29] at h
    obtain ⟨j, hj, rfl⟩ := Option.map_eq_some_iff.1 h
    have := nest_le hj
    omega
theorem get_at {s : ByteArray} {p : Nat} (hp : p < s.size) : (toL s)[p]? = some (s[p]'hp) := by
  rw [List.getElem?_eq_getElem (by rw [toL_length]; exact hp)]; rfl
theorem pre_is {s : ByteArray} (h0 : 0 < s.size) (h36 : s[0]'h0 = 36) (z : UInt8) : [36, z].isPrefixOf (toL s) = decide (((toL s).drop 1).head? = some z) := by
  have e := drop_at h0
  rw [List.drop_zero, Nat.zero_add] at e
  rw [e, h36, Lx.prefix_two]
  simp
set_option maxHeartbeats 1500000 in
set_option maxRecDepth 100000 in
theorem dollar_any (d : Nat) (HP : Kept (PartsC d)) (n : Nat) (s : ByteArray) (q : Bool) (w : World) (mn : Int) (hn : n + d = 30) (hmn : mn = n) (hs : s.size ≤ 5000) (h0 : 0 < s.size) (h36 : s[0]'h0 = 36) :
    Calls Tryd.prog 25 #[.string s, .bool q, .int .i64 mn] w (DEnd w (dollar (parts d) q (toL s))) := by
  subst hmn
  have HN := Kept.mk hn
  have HS2 : Kept (s.size ≤ 1000000) := ⟨by omega⟩
  have n1 : (n : Int) ≤ 30 := by omega
  have hp1 := pre_is h0 h36 40
  have hp2 := pre_is h0 h36 123
  have HM0 := Kept.mk (DbM.begin w)
  obtain ⟨bb, hbb⟩ : ∃ bb, bb = decide (((toL s).drop 1).head? = some 40 ∨ ((toL s).drop 1).head? = some 123) := ⟨_, rfl⟩
  have HBb := Kept.mk hbb
  clear hn hbb
  go_enter Tryd.func25, Tryd.ntmps25
  go_upto_region 1 with fail
  generalize w.alloc (.cells #[.int .i64 0, .bool false, .string ⟨#[]⟩, .string ⟨#[]⟩, .string ⟨#[]⟩, .slice none 0 0] 39) = w1 at HM0 ⊢
  go_cut [18] (fun t wc => t = .bool bb ∧ Kept (wc = w1))
  case first =>
    by_cases h40 : ((toL s).drop 1).head? = some 40
    · have HB1 : Kept (true = (toL ⟨#[36, 40]⟩).isPrefixOf (toL s)) := ⟨by rw [show toL ⟨#[36, 40]⟩ = [36, 40] from rfl, hp1, decide_eq_true h40]⟩
      have HR : Kept (bb = true) := ⟨by rw [HBb.out, decide_eq_true (.inl h40)]⟩
      have T1 : Kept True := ⟨trivial⟩
      clear hp1 hp2 h40
      go_wp2_with (first
        | (go_at_call 35; have := T1; refine (begins_any s ⟨#[36, 40]⟩ _ true HS2.out (by decide) HB1.out).mono ?_; rintro e w2 ⟨rfl, rfl⟩; clear T1 this))
      go_meet
      exact ⟨by rw [HR.out], ⟨rfl⟩⟩
    · have HB1 : Kept (false = (toL ⟨#[36, 40]⟩).isPrefixOf (toL s)) := ⟨by rw [show toL ⟨#[36, 40]⟩ = [36, 40] from rfl, hp1, decide_eq_false h40]⟩
      by_cases h123 : ((toL s).drop 1).head? = some 123
      · have HB2 : Kept (true = (toL ⟨#[36, 123]⟩).isPrefixOf (toL s)) := ⟨by rw [show toL ⟨#[36, 123]⟩ = [36, 123] from rfl, hp2, decide_eq_true h123]⟩
        have HR : Kept (bb = true) := ⟨by rw [HBb.out, decide_eq_true (.inr h123)]⟩
        have T1 : Kept True := ⟨trivial⟩
        clear hp1 hp2 h40 h123
        go_wp2_with (first
          | (go_at_call 35; have := T1; refine (begins_any s ⟨#[36, 40]⟩ _ false HS2.out (by decide) HB1.out).mono ?_; rintro e w2 ⟨rfl, rfl⟩; clear T1 this) | (go_at_call 35; refine (begins_any s ⟨#[36, 123]⟩ _ true HS2.out (by decide) HB2.out).mono ?_; rintro e w2 ⟨rfl, rfl⟩))
        go_meet
        exact ⟨by rw [HR.out], ⟨rfl⟩⟩
      · have HB2 : Kept (false = (toL ⟨#[36, 123]⟩).isPrefixOf (toL s)) := ⟨by rw [show toL ⟨#[36, 123]⟩ = [36, 123] from rfl, hp2, decide_eq_false h123]⟩
        have HR : Kept (bb = false) := ⟨by rw [HBb.out]; exact decide_eq_false (fun h => h.elim h40 h123)⟩
        have T1 : Kept True := ⟨trivial⟩
        clear hp1 hp2 h40 h123
        go_wp2_with (first
          | (go_at_call 35; have := T1; refine (begins_any s ⟨#[36, 40]⟩ _ false HS2.out (by decide) HB1.out).mono ?_; rintro e w2 ⟨rfl, rfl⟩; clear T1 this) | (go_at_call 35; refine (begins_any s ⟨#[36, 123]⟩ _ false HS2.out (by decide) HB2.out).mono ?_; rintro e w2 ⟨rfl, rfl⟩))
        go_meet
        exact ⟨by rw [HR.out], ⟨rfl⟩⟩
  case rest =>
    obtain ⟨rfl, hw⟩ := hcut
    have hw := hw.out
    subst hw
    clear hp1 hp2
    cases bb with
    | true =>
      have hu := of_decide_eq_true HBb.out.symm
      have hdu : dollar (parts d) q (toL s) = _ := dollar_unit hu
      have hlen2 : 1 < s.size := by
        rcases Nat.lt_or_ge 1 s.size with h | h
        · exact h
        · rw [List.drop_eq_nil_of_le (by rw [toL_length]; omega)] at hu
          simp at hu
      have HU : Kept (unitAt 30 0 (toL s) 0 = unit 30 0 (toL s)) := ⟨by unfold unitAt; rw [List.drop_zero]; cases unit 30 0 (toL s) <;> simp⟩
      have HSk := Kept.mk ((both_any 30).1 1 0 s wc 1 0 (by omega) rfl rfl h0 (by omega))
      rw [HU.out] at HSk
      have h1 : ((toL s).drop 1).head? = some (s[1]'hlen2) := head_at hlen2
      cases hun : unit 30 0 (toL s) with
      | none =>
        rw [hun] at hdu HSk
        have HBr : Kept (dollar (parts d) q (toL s) = .error 90) := ⟨hdu⟩
        clear hdu hun hu h1
        go_wp2_with (first
          | (go_at_call 24; refine HSk.out.mono ?_; rintro e w3 ⟨rfl, rfl⟩; dsimp only [ansN])
          | (refine wpList_store_row rfl 39 _ _ rfl _ _ rfl rfl 39 _ HM0.out.r0 (by kernel_rfl) rfl (by simp [Value.oneCell']) ?_; have HO := Kept.mk (HM0.out.row #[.int .i64 0, .bool false, .string ⟨#[]⟩, .string ⟨#[]⟩, .string ⟨#[]⟩, .slice none 0 0])))
        refine bodyPost_ret (res_three rfl _ _ w.heap.size _ _ (0, 0) _ rfl HO.out.1 Tryd.underlying39 rfl (by kernel_rfl)) rfl ?_
        rw [HBr.out]
        exact ⟨0, false, _, _, _, _, rfl, by decide, HO.out.2⟩
      | some k =>
        have hkl := unit_le _ hun
        rw [toL_length] at hkl
        rw [hun] at hdu HSk
        have k1 : ((k : Int) < 0) = False := by simp
        have kb : (k : Int) ≤ 5000 := by omega
        have k0 : (0 : Int) ≤ k := by omega
        have hk2 : s[1]'hlen2 = 123 → 3 ≤ k := fun h => unit_three (by rw [two_at h0 hlen2, h36, h] at hun; exact hun) (.inr rfl)
        have hk4 : s[1]'hlen2 = 40 → 3 ≤ k := fun h => unit_three (by rw [two_at h0 hlen2, h36, h] at hun; exact hun) (.inl rfl)
        clear hun
        by_cases h123 : s[1]'hlen2 = 123
        · have y123 : (((s[1]'hlen2).toNat : Nat) : Int) = 123 := nat_byte (k := 123) h123 (by omega)
          rw [h123] at h1
          have hk3 : 3 ≤ k := hk2 h123
          obtain ⟨Y, hY⟩ : ∃ Y, Y = s.extract 2 (k - 1) := ⟨_, rfl⟩
          have hYl : toL Y = ((toL s).take (k - 1)).drop 2 := by rw [hY, toL_extract, List.drop_take]
          have HYs : Kept (Y.size ≤ 5000) := ⟨by rw [hY, ByteArray.size_extract]; omega⟩
          have hdu2 : dollar (parts d) q (toL s) = (braces (parts d) q (toL Y)).map fun p => (p, k) := by
            rw [hdu, hYl]
            exact if_pos h1
          have hsl : ∀ W : World, (Instr.slice 9 (.string s) (some (.int .i64 2)) (some (.int .i64 ((k : Int) - 1))) none).run Tryd.prog W = .ok (.string Y) W := fun W => by
            rw [run_slice_string_if W 9 s .i64 .i64 _ _ Tryd.underlying9, if_pos ⟨by omega, by omega⟩, if_pos ⟨by omega, by omega⟩, hY, show ((k : Int) - 1).toNat = k - 1 by omega]; rfl
          have HG : Kept (w.heap.size + 1 ≤ wc.heap.size) := ⟨(Array.getElem?_eq_some_iff.1 HM0.out.r0).1⟩
          have HPc := Kept.mk (braces_any d HP n Y q wc n (by have := HN.out; omega) rfl HYs.out)
          have HDu := Kept.mk hdu2
          clear hdu hdu2 h1 hu h123 hY hYl hkl
          unfold BEnd at HPc
          have T2 : Kept True := ⟨trivial⟩
          cases hp : braces (parts d) q (toL Y) with
          | error ce =>
            have HBr : Kept (dollar (parts d) q (toL s) = .error ce) := ⟨by rw [HDu.out, hp]; rfl⟩
            rw [hp] at HPc
            clear hp
            go_wp2_with (first
              | (go_at_call 24; refine HSk.out.mono ?_; rintro e w3 ⟨rfl, rfl⟩; dsimp only [ansN])
              | (go_at_call 36
                 have := T2
                 refine HPc.out.mono ?_
                 rintro e w5 ⟨q5, n5, o5, rfl, hce, hb5⟩
                 have HCe := Kept.mk hce
                 have HX5 := Kept.mk (heap_alloc_new w5 (.cells #[.int .i64 1, .bool q5, .string ⟨#[]⟩, .string n5, .string o5, .slice none 0 0] 39))
                 have HM5 := Kept.mk ((HM0.out.below hb5).below ((Below.refl _ _).alloc (Nat.le_refl _) (.cells #[.int .i64 1, .bool q5, .string ⟨#[]⟩, .string n5, .string o5, .slice none 0 0] 39)))
                 clear T2 this hce hb5)
              | (refine wpList_load_row rfl 39 _ rfl w5.heap.size rfl 39 #[.int .i64 1, .bool q5, .string ⟨#[]⟩, .string n5, .string o5, .slice none 0 0] (0, 0) _ HX5.out Tryd.underlying39 rfl (by kernel_rfl) ?_)
              | (refine wpList_store_row rfl 39 _ _ rfl _ _ rfl rfl 39 _ HM5.out.r0 (by kernel_rfl) rfl (by simp [Value.oneCell']) ?_; have HO := Kept.mk (HM5.out.row #[.int .i64 1, .bool q5, .string ⟨#[]⟩, .string n5, .string o5, .slice none 0 0])))
            refine bodyPost_ret (res_three rfl _ _ w.heap.size _ _ (0, 0) _ rfl HO.out.1 Tryd.underlying39 rfl (by kernel_rfl)) rfl ?_
            rw [HBr.out]
            exact ⟨1, q5, _, _, _, _, rfl, HCe.out, HO.out.2⟩
          | ok p =>
            have HBr : Kept (dollar (parts d) q (toL s) = .ok (p, k)) := ⟨by rw [HDu.out, hp]; rfl⟩
            rw [hp] at HPc
            clear hp
            go_wp2_with (first
              | (go_at_call 24; refine HSk.out.mono ?_; rintro e w3 ⟨rfl, rfl⟩; dsimp only [ansN])
              | (go_at_call 36
                 have := T2
                 refine HPc.out.mono ?_
                 rintro e w5 ⟨q5, n5, o5, wd, A, kk, hp5, rfl, hl5, hb5⟩
                 have HP5 := Kept.mk hp5
                 generalize hll : wd.length = ll at *
                 have HLL := Kept.mk hll
                 have HX5 := Kept.mk (heap_alloc_new w5 (.cells #[.int .i64 1, .bool q5, .string ⟨#[]⟩, .string (bs n5), .string (bs o5), .slice A ll kk] 39))
                 have HB5 := Kept.mk ((Below.refl w5.heap.size w5).alloc (Nat.le_refl _) (.cells #[.int .i64 1, .bool q5, .string ⟨#[]⟩, .string (bs n5), .string (bs o5), .slice A ll kk] 39))
                 have HM5 := Kept.mk ((HM0.out.below hb5).below HB5.out)
                 have HL5 := Kept.mk (hl5.out.keep HB5.out)
                 clear T2 this hp5 hb5 hl5 hll)
              | (refine wpList_load_row rfl 39 _ rfl w5.heap.size rfl 39 #[.int .i64 1, .bool q5, .string ⟨#[]⟩, .string (bs n5), .string (bs o5), .slice A ll kk] (0, 0) _ HX5.out Tryd.underlying39 rfl (by kernel_rfl) ?_)
              | (refine wpList_store_row rfl 39 _ _ rfl _ _ rfl rfl 39 _ HM5.out.r0 (by kernel_rfl) rfl (by simp [Value.oneCell']) ?_; have HO := Kept.mk (HM5.out.row #[.int .i64 1, .bool q5, .string ⟨#[]⟩, .string (bs n5), .string (bs o5), .slice A ll kk])))
            refine bodyPost_ret (res_three rfl _ _ w.heap.size _ _ (0, 0) _ rfl HO.out.1 Tryd.underlying39 rfl (by kernel_rfl)) rfl ?_
            rw [HBr.out]
            exact ⟨1, q5, [], n5, o5, wd, A, kk, HP5.out, by rw [HLL.out]; rfl, ⟨by rw [HLL.out]; exact LV.far1 HL5.out HG.out _⟩, HO.out.2⟩
        · have y123 : ((((s[1]'hlen2).toNat : Nat) : Int) == 123) = false := nat_nbyte (k := 123) h123 (by omega)
          have hn123 : ¬ ((toL s).drop 1).head? = some 123 := by rw [h1]; simpa using h123
          have hk3 : 3 ≤ k := hk4 (by
            rcases hu with h | h
            · rw [h1] at h; simpa using h
            · exact absurd h hn123)
          obtain ⟨ab, hab⟩ : ∃ ab, ab = decide (4 < k ∧ (toL s)[2]? = some 40 ∧ (toL s)[k - 2]? = some 41) := ⟨_, rfl⟩
          have HAb := Kept.mk hab
          have hdu2 : dollar (parts d) q (toL s) = if ab then .ok (.mk 3 q (((toL s).take (k - 2)).drop 3) [] [] [], k) else .ok (.mk 2 q (((toL s).take (k - 1)).drop 2) [] [] [], k) := by
            rw [hdu, hab]
            simp only [decide_eq_true_eq]
            exact if_neg hn123
          have HDu := Kept.mk hdu2
          clear hdu hdu2 h1 hu h123 hn123 hab
          go_upto_region 8 with (first
            | (go_at_call 24; refine HSk.out.mono ?_; rintro e w3 ⟨rfl, rfl⟩; dsimp only [ansN]))
          go_cut [53] (fun t wy => t = .bool ab ∧ Kept (wy = w3))
          case first =>
            by_cases h4 : 4 < k
            · have z4 : (4 : Int) < k := by omega
              have i2 : 2 < s.size := by omega
              have i3 : k - 2 < s.size := by omega
              have g2 := get_at i2
              have g3 := get_at i3
              by_cases h40 : s[2]'i2 = 40
              · have y40 : (((s[2]'i2).toNat : Nat) : Int) = 40 := nat_byte (k := 40) h40 (by omega)
                have hix : ∀ W : World, (Instr.index 9 (.string s) (.int .i64 ((k : Int) - 2))).run Tryd.prog W = .ok (.int .u8 ((s[k - 2]'i3).toNat : Int)) W := fun W => by
                  rw [run_index_string W 9 s .i64 _ Tryd.underlying9, dif_pos ⟨by omega, by omega⟩]
                  simp only [show ((k : Int) - 2).toNat = k - 2 by omega]
                by_cases h41 : s[k - 2]'i3 = 41
                · have y41 : (((s[k - 2]'i3).toNat : Nat) : Int) = 41 := nat_byte (k := 41) h41 (by omega)
                  have HR : Kept (ab = true) := ⟨by rw [HAb.out, decide_eq_true ⟨h4, by rw [g2, h40], by rw [g3, h41]⟩]⟩
                  clear g2 g3 h40 h41 h4
                  go_wp2_with fail
                  go_meet
                  exact ⟨by rw [HR.out], ⟨rfl⟩⟩
                · have y41 : ((((s[k - 2]'i3).toNat : Nat) : Int) == 41) = false := nat_nbyte (k := 41) h41 (by omega)
                  have HR : Kept (ab = false) := ⟨by rw [HAb.out, g3]; simp [h41]⟩
                  clear g2 g3 h40 h41 h4
                  go_wp2_with fail
                  go_meet
                  exact ⟨by rw [HR.out], ⟨rfl⟩⟩
              · have y40 : ((((s[2]'i2).toNat : Nat) : Int) == 40) = false := nat_nbyte (k := 40) h40 (by omega)
                have HR : Kept (ab = false) := ⟨by rw [HAb.out, g2]; simp [h40]⟩
                clear g2 g3 h40 h4
                go_wp2_with fail
                go_meet
                exact ⟨by rw [HR.out], ⟨rfl⟩⟩
            · have z4 : ¬ (4 : Int) < k := by omega
              have HR : Kept (ab = false) := ⟨by rw [HAb.out]; simp [h4]⟩
              clear h4
              go_wp2_with fail
              go_meet
              exact ⟨by rw [HR.out], ⟨rfl⟩⟩
          case rest =>
            obtain ⟨rfl, hw⟩ := hcut
            have hw := hw.out
            subst hw
            cases ab with
            | true =>
              have hx := of_decide_eq_true HAb.out.symm
              obtain ⟨Y, hY⟩ : ∃ Y, Y = s.extract 3 (k - 2) := ⟨_, rfl⟩
              have hYl : toL Y = ((toL s).take (k - 2)).drop 3 := by rw [hY, toL_extract, List.drop_take]
              have HYl : Kept (bs (((toL s).take (k - 2)).drop 3) = Y) := ⟨by rw [← hYl, bs_toL]⟩
              have hsl : ∀ W : World, (Instr.slice 9 (.string s) (some (.int .i64 3)) (some (.int .i64 ((k : Int) - 2))) none).run Tryd.prog W = .ok (.string Y) W := fun W => by
                rw [run_slice_string_if W 9 s .i64 .i64 _ _ Tryd.underlying9, if_pos ⟨by omega, by omega⟩, if_pos ⟨by omega, by omega⟩, hY, show ((k : Int) - 2).toNat = k - 2 by omega]; rfl
              have HBr : Kept (dollar (parts d) q (toL s) = .ok (.mk 3 q (((toL s).take (k - 2)).drop 3) [] [] [], k)) := ⟨HDu.out⟩
              clear hx hY hYl
              go_wp2_with (first
                | (refine wpList_store_row rfl 39 _ _ rfl _ _ rfl rfl 39 _ HM0.out.r0 (by kernel_rfl) rfl (by simp [Value.oneCell']) ?_; have HO := Kept.mk (HM0.out.row #[.int .i64 3, .bool q, .string Y, .string ⟨#[]⟩, .string ⟨#[]⟩, .slice none 0 0])))
              refine bodyPost_ret (res_three rfl _ _ w.heap.size _ _ (0, 0) _ rfl HO.out.1 Tryd.underlying39 rfl (by kernel_rfl)) rfl ?_
              rw [HBr.out]
              exact ⟨3, q, _, [], [], [], none, 0, rfl, by rw [HYl.out]; rfl, ⟨.nil _ _ (fun _ => rfl)⟩, HO.out.2⟩
            | false =>
              obtain ⟨Y, hY⟩ : ∃ Y, Y = s.extract 2 (k - 1) := ⟨_, rfl⟩
              have hYl : toL Y = ((toL s).take (k - 1)).drop 2 := by rw [hY, toL_extract, List.drop_take]
              have HYl : Kept (bs (((toL s).take (k - 1)).drop 2) = Y) := ⟨by rw [← hYl, bs_toL]⟩
              have hsl : ∀ W : World, (Instr.slice 9 (.string s) (some (.int .i64 2)) (some (.int .i64 ((k : Int) - 1))) none).run Tryd.prog W = .ok (.string Y) W := fun W => by
                rw [run_slice_string_if W 9 s .i64 .i64 _ _ Tryd.underlying9, if_pos ⟨by omega, by omega⟩, if_pos ⟨by omega, by omega⟩, hY, show ((k : Int) - 1).toNat = k - 1 by omega]; rfl
              have HBr : Kept (dollar (parts d) q (toL s) = .ok (.mk 2 q (((toL s).take (k - 1)).drop 2) [] [] [], k)) := ⟨HDu.out⟩
              clear hY hYl
              go_wp2_with (first
                | (refine wpList_store_row rfl 39 _ _ rfl _ _ rfl rfl 39 _ HM0.out.r0 (by kernel_rfl) rfl (by simp [Value.oneCell']) ?_; have HO := Kept.mk (HM0.out.row #[.int .i64 2, .bool q, .string Y, .string ⟨#[]⟩, .string ⟨#[]⟩, .slice none 0 0])))
              refine bodyPost_ret (res_three rfl _ _ w.heap.size _ _ (0, 0) _ rfl HO.out.1 Tryd.underlying39 rfl (by kernel_rfl)) rfl ?_
              rw [HBr.out]
              exact ⟨2, q, _, [], [], [], none, 0, rfl, by rw [HYl.out]; rfl, ⟨.nil _ _ (fun _ => rfl)⟩, HO.out.2⟩
    | false =>
      have hu := of_decide_eq_false HBb.out.symm
      have hdn := dollar_name (w := parts d) (q := q) hu
      obtain ⟨X, hX⟩ : ∃ X, X = s.extract 1 s.size := ⟨_, rfl⟩
      have hXl : toL X = (toL s).drop 1 := by rw [hX, toL_extract, List.take_of_length_le (by rw [List.length_drop, toL_length]; omega)]
      have hsl : ∀ W : World, (Instr.slice 9 (.string s) (some (.int .i64 1)) none none).run Tryd.prog W = .ok (.string X) W := fun W => by
        rw [run_slice_string_from_if W 9 s .i64 _ Tryd.underlying9, if_pos ⟨by omega, by omega⟩, hX]; rfl
      have HXs : Kept (X.size ≤ 1000000) := ⟨by rw [hX, ByteArray.size_extract]; omega⟩
      obtain ⟨nl, hnl⟩ : ∃ nl, nl = nameL (toL X) := ⟨_, rfl⟩
      have HNl := Kept.mk hnl
      have hnle := nameL_le (toL X)
      rw [← hnl, toL_length, hX, ByteArray.size_extract] at hnle
      obtain ⟨sb, hsb⟩ : ∃ sb, sb = decide (nl = 0 ∧ (((toL s).drop 1).head?.map special) = some true) := ⟨_, rfl⟩
      have HSb := Kept.mk hsb
      have hdN : dName ((toL s).drop 1) = if sb then 1 else nl := by
        unfold dName
        rw [hsb, hnl, hXl]
        simp only [decide_eq_true_eq]
      have HDu : Kept (dollar (parts d) q (toL s) = if (if sb then 1 else nl) = 0 then .ok (txt q [36], 1) else .ok (.mk 1 q [] (((toL s).drop 1).take (if sb then 1 else nl)) [] [], (if sb then 1 else nl) + 1)) := ⟨by rw [hdn, hdN]⟩
      have b1 : (nl : Int) ≤ 5000 := by omega
      have hnle2 : nl + 1 ≤ s.size := by omega
      clear hdn hdN hX hXl hnl hsb hu hnle
      go_upto_region 12 with (first
        | (go_at_call 37; refine (name_any _ _ HXs.out nl HNl.out).mono ?_; rintro e w3 ⟨rfl, rfl⟩))
      go_cut [82] (fun t wy => t = .bool sb ∧ Kept (wy = wc))
      case first =>
        by_cases hn0 : nl = 0
        · have z0 : ((nl : Int) == 0) = true := by simp [hn0]
          by_cases hl2 : 1 < s.size
          · have zl : (1 : Int) < s.size := by omega
            have h1 : ((toL s).drop 1).head? = some (s[1]'hl2) := head_at hl2
            obtain ⟨sp, hsp⟩ : ∃ sp, sp = special (s[1]'hl2) := ⟨_, rfl⟩
            have HSp := Kept.mk hsp
            have HR : Kept (sb = sp) := ⟨by rw [HSb.out, h1, ← hsp.symm]; simp [hn0]⟩
            clear h1 hsp hn0
            go_wp2_with (first
              | (go_at_call 38; refine (special_any _ _ sp HSp.out).mono ?_; rintro e w3 ⟨rfl, rfl⟩))
            go_meet
            exact ⟨by rw [HR.out], ⟨rfl⟩⟩
          · have zl : ¬ (1 : Int) < s.size := by omega
            have HR : Kept (sb = false) := ⟨by rw [HSb.out, List.drop_eq_nil_of_le (by rw [toL_length]; omega)]; simp⟩
            clear hn0
            go_wp2_with fail
            go_meet
            exact ⟨by rw [HR.out], ⟨rfl⟩⟩
        · have z0 : ((nl : Int) == 0) = false := by simpa using hn0
          have HR : Kept (sb = false) := ⟨by rw [HSb.out]; simp [hn0]⟩
          clear hn0
          go_wp2_with fail
          go_meet
          exact ⟨by rw [HR.out], ⟨rfl⟩⟩
      case rest =>
        obtain ⟨rfl, hw⟩ := hcut
        have hw := hw.out
        subst hw
        cases sb with
        | true =>
          have hx := of_decide_eq_true HSb.out.symm
          have hl2 : 2 ≤ s.size := by
            rcases Nat.lt_or_ge 1 s.size with h | h
            · exact h
            · rw [List.drop_eq_nil_of_le (by rw [toL_length]; omega)] at hx
              simp at hx
          have HBr : Kept (dollar (parts d) q (toL s) = .ok (.mk 1 q [] (((toL s).drop 1).take 1) [] [], 2)) := ⟨HDu.out⟩
          obtain ⟨Y, hY⟩ : ∃ Y, Y = s.extract 1 2 := ⟨_, rfl⟩
          have HYl : Kept (bs (((toL s).drop 1).take 1) = Y) := ⟨by rw [← bs_toL Y, hY, toL_extract]⟩
          have hsl2 : ∀ W : World, (Instr.slice 9 (.string s) (some (.int .i64 1)) (some (.int .i64 2)) none).run Tryd.prog W = .ok (.string Y) W := fun W => by
            rw [run_slice_string_if W 9 s .i64 .i64 _ _ Tryd.underlying9, if_pos ⟨by omega, by omega⟩, if_pos ⟨by omega, by omega⟩, hY]; rfl
          clear hx hY
          go_wp2_with (first
            | (refine wpList_store_row rfl 39 _ _ rfl _ _ rfl rfl 39 _ HM0.out.r0 (by kernel_rfl) rfl (by simp [Value.oneCell']) ?_; have HO := Kept.mk (HM0.out.row #[.int .i64 1, .bool q, .string ⟨#[]⟩, .string Y, .string ⟨#[]⟩, .slice none 0 0])))
          refine bodyPost_ret (res_three rfl _ _ w.heap.size _ _ (0, 0) _ rfl HO.out.1 Tryd.underlying39 rfl (by kernel_rfl)) rfl ?_
          rw [HBr.out]
          exact ⟨1, q, [], _, [], [], none, 0, rfl, by rw [HYl.out]; rfl, ⟨.nil _ _ (fun _ => rfl)⟩, HO.out.2⟩
        | false =>
          by_cases hn0 : nl = 0
          · have z0 : ((nl : Int) == 0) = true := by simp [hn0]
            have HBr : Kept (dollar (parts d) q (toL s) = .ok (txt q [36], 1)) := ⟨by rw [HDu.out]; simp [hn0]⟩
            clear hn0
            go_wp2_with (first
              | (refine wpList_store_row rfl 39 _ _ rfl _ _ rfl rfl 39 _ HM0.out.r0 (by kernel_rfl) rfl (by simp [Value.oneCell']) ?_; have HO := Kept.mk (HM0.out.row #[.int .i64 0, .bool q, .string ⟨#[36]⟩, .string ⟨#[]⟩, .string ⟨#[]⟩, .slice none 0 0])))
            refine bodyPost_ret (res_three rfl _ _ w.heap.size _ _ (0, 0) _ rfl HO.out.1 Tryd.underlying39 rfl (by kernel_rfl)) rfl ?_
            rw [HBr.out]
            exact ⟨0, q, [36], [], [], [], none, 0, rfl, rfl, ⟨.nil _ _ (fun _ => rfl)⟩, HO.out.2⟩
          · have z0 : ((nl : Int) == 0) = false := by simpa using hn0
            have HBr : Kept (dollar (parts d) q (toL s) = .ok (.mk 1 q [] (((toL s).drop 1).take nl) [] [], nl + 1)) := ⟨by rw [HDu.out]; simp [hn0]⟩
            obtain ⟨Y, hY⟩ : ∃ Y, Y = s.extract 1 (nl + 1) := ⟨_, rfl⟩
            have HYl : Kept (bs (((toL s).drop 1).take nl) = Y) := ⟨by rw [← bs_toL Y, hY, toL_extract, Nat.add_sub_cancel]⟩
            have hsl2 : ∀ W : World, (Instr.slice 9 (.string s) (some (.int .i64 1)) (some (.int .i64 ((nl : Int) + 1))) none).run Tryd.prog W = .ok (.string Y) W := fun W => by
              rw [run_slice_string_if W 9 s .i64 .i64 _ _ Tryd.underlying9, if_pos ⟨by omega, by omega⟩, if_pos ⟨by omega, by omega⟩, hY, show ((nl : Int) + 1).toNat = nl + 1 by omega]; rfl
            clear hY hn0
            go_wp2_with (first
              | (refine wpList_store_row rfl 39 _ _ rfl _ _ rfl rfl 39 _ HM0.out.r0 (by kernel_rfl) rfl (by simp [Value.oneCell']) ?_; have HO := Kept.mk (HM0.out.row #[.int .i64 1, .bool q, .string ⟨#[]⟩, .string Y, .string ⟨#[]⟩, .slice none 0 0])))
            refine bodyPost_ret (res_three rfl _ _ w.heap.size _ _ (0, 0) _ rfl HO.out.1 Tryd.underlying39 rfl (by kernel_rfl)) rfl ?_
            rw [HBr.out]
            exact ⟨1, q, [], _, [], [], none, 0, rfl, by rw [HYl.out]; rfl, ⟨.nil _ _ (fun _ => rfl)⟩, HO.out.2⟩
end Wx
end Go.Proofs.YtphgnjjblpmijaaDoor
