/-
  The law of two texts: the tokens of both.
-/
import Derived.Test.YtnafecdionhnfaaDoorLw4
import Derived.Laws.AppendOwnNone
namespace Go.Proofs.YtnafecdionhnfaaDoor
open Go.RowKit Tx
namespace Lx

theorem tvs_append (a b : List Tok) : tvs (a ++ b) = tvs a ++ tvs b := by unfold tvs; rw [List.flatMap_append]
theorem tvs_one (l : List Tok) : ∀ u ∈ tvs l, u.oneCell' = true := by
  intro u hu
  unfold tvs at hu
  rw [List.mem_flatMap] at hu
  obtain ⟨t, _, ht⟩ := hu
  exact tv_one t u ht
theorem Rt.news {w : World} {g : Nat} {l : List Tok} (h : Rt w (some ⟨g, 0, none⟩) l) : ∀ j u, (tvs l)[j]? = some u → w.cell? ((⟨g, 0, none⟩ : Addr).add j) = some u := by
  intro j u hu
  have ha : (⟨g, 0, none⟩ : Addr).add j = ⟨g, 0 + j, none⟩ := by unfold Addr.add; split <;> simp_all
  rw [ha, Nat.zero_add]
  have hj : j < l.length * 2 := by
    have := (List.getElem?_eq_some_iff.1 hu).1
    rwa [tvs_length] at this
  have hi : j / 2 < l.length := by omega
  obtain ⟨g', e, _, c0, c1⟩ := h (j / 2) hi
  injection e with e
  injection e with e1
  subst e1
  have h2 := tvs_at hi
  rcases Nat.mod_two_eq_zero_or_one j with hm | hm
  · have : j / 2 * 2 = j := by omega
    rw [this] at c0 h2
    rw [h2.1] at hu
    obtain rfl := Option.some.inj hu
    exact c0
  · have : j / 2 * 2 + 1 = j := by omega
    rw [this] at c1 h2
    rw [h2.2] at hu
    obtain rfl := Option.some.inj hu
    exact c1
theorem RT.grow {w wr w2 : World} {v v2 : Value} {ts l : List Tok} (h : RT w wr v ts) (hg : wr.grownBy w2 v.ownBlock) (ho : w2.ownsRow w.heap.size 35 2 v2 (ts.length + l.length) (tvs ts ++ tvs l)) : RT w w2 v2 (ts ++ l) := by
  refine ⟨?_, ?_⟩
  · rw [List.length_append, tvs_append]; exact ho
  · have hz := h.bel.size
    have hs := hg.size
    refine ⟨hg.os.trans h.bel.os, hg.tape.trans h.bel.tape, hg.output.trans h.bel.output, by omega, fun i hi => ?_⟩
    refine (hg.block i (by omega) (fun e => ?_)).trans (h.bel.block i hi)
    rcases h.own.2 with ⟨rfl, _⟩ | ⟨k, cap, cur, rfl, hB, _⟩
    · cases e
    · have e2 : i = k := by injection e
      omega
theorem wpList_append_toks {w w0 : World} {v : Value} {ts l : List Tok} {A : Option Addr} {k : Nat} {ops : Array Oper} {rest : List Oper} {o : Oper} {a : Act} {Q : Exit → Act → World → Prop} (hgd : o.guard = none) (s x : Operand)
    (ho : o.op = .call { callee := .builtin .append, args := #[s, x], argTypes := #[26, 26] }) (hs : a.eval s = v) (hR : RT w0 w v ts) (hx : a.eval x = .slice A l.length k) (hA : Rt w A l) (hk : A = none → k = 0)
    (hlen : ts.length + l.length ≤ 1000000) (h : ∀ v' w', RT w0 w' v' (ts ++ l) → wpList Tryd.prog ops Q rest (a.put o.dst v') w') : wpList Tryd.prog ops Q (o :: rest) a w := by
  obtain ⟨i0, hi, hz0, hz1, hz2⟩ := info_parts tokInfo
  cases A with
  | none =>
    obtain rfl : l = [] := by
      cases l with
      | nil => rfl
      | cons t l => obtain ⟨g, e, _⟩ := hA 0 (by simp); cases e
    obtain rfl := hk rfl
    refine wpList_append_own_none hgd s x 26 ho w0.heap.size 35 i0 2 Tryd.underlying26 hi v ts.length (tvs ts) hs hR.own hx (h v w ?_)
    rw [List.append_nil]; exact hR
  | some ad =>
    have hn : ∀ j u, (tvs l)[j]? = some u → w.cell? (ad.add j) = some u := by
      cases l with
      | nil => intro j u hu; simp [tvs] at hu
      | cons t l =>
        obtain ⟨g, e, _⟩ := hA 0 (by simp)
        obtain rfl := Option.some.inj e
        exact hA.news
    exact wpList_append_own w hgd s x 26 ho w0.heap.size 35 i0 _ 2 24 Tryd.underlying26 hi hz0 hz1 hz2 rfl (by decide) v ts.length (tvs ts) hs hR.own ad l.length k (tvs l) hx (tvs_length l) hn (tvs_one l) (by unfold maxLen; omega) (by omega) hR.bel.size fun v' w' h1 h2 _ => h v' w' (hR.grow h2 h1)
def lineB : ByteArray := ⟨#[10]⟩
def commB : ByteArray := ⟨#[32, 35, 32, 39, 32, 40, 32, 10]⟩
theorem two_line {a b : ByteArray} {ts us : List Tok} (ha : toks (toL a) = some ts) (hb : toks (toL b) = some us) : toks (toL (a ++ lineB ++ b)) = some (ts ++ [⟨2, [10]⟩] ++ us) := by
  have h := (goes_two (goes_iff.1 ha) (goes_iff.1 hb) (Sep.line _)).toks
  have e : toL (a ++ lineB ++ b) = toL a ++ 10 :: toL b := by simp [toL, lineB]
  rw [e, h]; simp
theorem two_comm {a b : ByteArray} {ts us : List Tok} (ha : toks (toL a) = some ts) (hb : toks (toL b) = some us) : toks (toL (a ++ commB ++ b)) = some (ts ++ [⟨2, [10]⟩] ++ us) := by
  have h := (goes_two (goes_iff.1 ha) (goes_iff.1 hb) (Sep.comment _)).toks
  have e : toL (a ++ commB ++ b) = toL a ++ ([32, 35, 32, 39, 32, 40, 32] ++ 10 :: toL b) := by simp [toL, commB]
  rw [e, h]; simp
set_option maxHeartbeats 4000000 in
set_option maxRecDepth 100000 in
theorem two_any (raw tt : ByteArray) (A : Option Addr) (n k : Nat) (sm : Bool) (w : World) (hK : Kit w) (hl : By8 w A n) (hn : n ≤ 9223372036854775807) (hraw : raw.size ≤ 9223372036854775807) (htt : tt.size ≤ 9223372036854775807) :
    Calls Tryd.prog 6 #[.string raw, .string tt, .slice A n k, .bool sm] w fun e w' => e = .returned (.bool true) ∧ Below w.heap.size w w' := by
  have HK := Kept.mk hK
  have HL := Kept.mk hl
  clear hK hl
  cases sm with
  | true =>
    have T1 : Kept True := ⟨trivial⟩
    go_enter Tryd.func6, Tryd.ntmps6
    go_wp2_with (first
      | (go_at_call 11; refine (awake_any w HK.out).mono ?_; rintro e w0 ⟨rfl, hb⟩; have HB0 := Kept.mk hb; clear hb)
      | (go_at_call 8; refine (signs_any _).mono ?_; rintro e w1 ⟨g, rfl, hg, hf, hb⟩; have HB1 := Kept.mk (HB0.out.trans (hb.mono HB0.out.size)); have HF := hf; clear hg hf hb)
      | (go_at_call 7; have := T1; refine (pieces_any A n k g 24 24 w1 (HL.out.below HB1.out) hn HF.out (by omega) (by omega)).mono ?_; rintro e w2 ⟨x, rfl, hx, hw⟩; have HW := Kept.mk hw; clear T1 this hw)
      | (go_at_call 7; refine (pieces_any A n k w2.heap.size 5 5 _ (HL.out.below ((by rw [HW.out]; exact HB1.out : Below w.heap.size w w2).alloc (by rw [HW.out]; exact HB1.out.size) _)) hn (few_of (heap_alloc_new w2 _) (by decide +kernel)) (by omega) (by omega)).mono ?_; rintro e w3 ⟨y, rfl, hy, hw⟩; have HB2 : Kept (Below w.heap.size w w3) := ⟨by rw [hw]; exact (by rw [HW.out]; exact HB1.out : Below w.heap.size w w2).alloc (by rw [HW.out]; exact HB1.out.size) _⟩; have hxs : x.size ≤ 500 := (by omega); have hys : y.size ≤ 500 := (by omega); have hxi : ¬ (500 : Int) < x.size := (by omega); have hyi : ¬ (500 : Int) < y.size := (by omega); clear hw))
    clear hx hy
    clear HW
    have T2 : Kept True := ⟨trivial⟩
    cases ht : toks (toL x) with
    | none =>
      have HT := Kept.mk ht
      clear ht
      cases hu : toks (toL y) with
      | none =>
        have HU := Kept.mk hu
        clear hu
        go_wp2_with (first
          | (go_at_call 9; have := T2; refine (tokens_no x w3 (HK.out.below HB2.out) (by omega) HT).mono ?_; rintro e w4 ⟨rfl, hb⟩; have HB3 := Kept.mk (HB2.out.trans (hb.mono HB2.out.size)); clear T2 this hb)
          | (go_at_call 9; refine (tokens_no y w4 (HK.out.below HB3.out) (by omega) HU).mono ?_; rintro e w5 ⟨rfl, hb⟩; have HB4 := Kept.mk (HB3.out.trans (hb.mono HB3.out.size)); clear hb))
        go_ret
        exact ⟨rfl, HB4.out⟩
      | some us =>
        have HU := Kept.mk hu
        clear hu
        go_wp2_with (first
          | (go_at_call 9; have := T2; refine (tokens_no x w3 (HK.out.below HB2.out) (by omega) HT).mono ?_; rintro e w4 ⟨rfl, hb⟩; have HB3 := Kept.mk (HB2.out.trans (hb.mono HB2.out.size)); clear T2 this hb)
          | (go_at_call 9; refine (tokens_ok y w4 us (HK.out.below HB3.out) (by omega) HU).mono ?_; rintro e w5 ⟨C, p, rfl, hR, hb⟩; have HB4 := Kept.mk (HB3.out.trans (hb.mono HB3.out.size)); clear hR hb))
        go_ret
        exact ⟨rfl, HB4.out⟩
    | some ts =>
      have HT := Kept.mk ht
      have hsz := goes_size (goes_iff.1 ht)
      rw [toL_length] at hsz
      have hts : ts.length ≤ 500 := by omega
      clear hsz
      cases hu : toks (toL y) with
      | none =>
        have HU := Kept.mk hu
        clear hu ht
        go_wp2_with (first
          | (go_at_call 9; have := T2; refine (tokens_ok x w3 ts (HK.out.below HB2.out) (by omega) HT).mono ?_; rintro e w4 ⟨C, p, rfl, hR, hb⟩; have HB3 := Kept.mk (HB2.out.trans (hb.mono HB2.out.size)); clear T2 this hb hR)
          | (go_at_call 9; refine (tokens_no y w4 (HK.out.below HB3.out) (by omega) HU).mono ?_; rintro e w5 ⟨rfl, hb⟩; have HB4 := Kept.mk (HB3.out.trans (hb.mono HB3.out.size)); clear hb))
        go_ret
        exact ⟨rfl, HB4.out⟩
      | some us =>
        have HU := Kept.mk hu
        have hsz := goes_size (goes_iff.1 hu)
        rw [toL_length] at hsz
        have hus : us.length ≤ 500 := by omega
        obtain ⟨all, hall⟩ : ∃ all, all = ts ++ [(⟨2, [10]⟩ : Tok)] ++ us := ⟨_, rfl⟩
        have HAll := Kept.mk hall
        have HW1 : Kept (toks (toL (x ++ lineB ++ y)) = some all) := ⟨by rw [hall]; exact two_line ht hu⟩
        have HW2 : Kept (toks (toL (x ++ commB ++ y)) = some all) := ⟨by rw [hall]; exact two_comm ht hu⟩
        have HAl : Kept (all.length ≤ 1000000) := ⟨by rw [hall]; simp; omega⟩
        have HZ1 : Kept ((x ++ lineB ++ y).size ≤ 20000) := ⟨by rw [ByteArray.size_append, ByteArray.size_append]; show x.size + 1 + y.size ≤ 20000; omega⟩
        have HZ2 : Kept ((x ++ commB ++ y).size ≤ 20000) := ⟨by rw [ByteArray.size_append, ByteArray.size_append]; show x.size + 8 + y.size ≤ 20000; omega⟩
        have q1 : ¬ 9223372036854775807 < x.size + (⟨#[10]⟩ : ByteArray).size := by show ¬ _ < x.size + 1; omega
        have q2 : ¬ 9223372036854775807 < (x ++ (⟨#[10]⟩ : ByteArray)).size + y.size := by rw [ByteArray.size_append]; show ¬ _ < x.size + 1 + y.size; omega
        have q3 : ¬ 9223372036854775807 < x.size + (⟨#[32, 35, 32, 39, 32, 40, 32, 10]⟩ : ByteArray).size := by show ¬ _ < x.size + 8; omega
        have q4 : ¬ 9223372036854775807 < (x ++ (⟨#[32, 35, 32, 39, 32, 40, 32, 10]⟩ : ByteArray)).size + y.size := by rw [ByteArray.size_append]; show ¬ _ < x.size + 8 + y.size; omega
        clear hsz hu ht hall
        go_wp2_with fail
        refine (tokens_ok2 x w3 ts (HK.out.below HB2.out) (by omega) HT).mono ?_
        rintro e w4 ⟨C, p, rfl, hR, hno, hb⟩
        have HB3 := Kept.mk (HB2.out.trans (hb.mono HB2.out.size))
        have HRC := hR
        have HnoC := hno
        clear hb hR hno
        go_wp2_with fail
        go_at_call 9
        refine (tokens_ok2 y w4 us (HK.out.below HB3.out) (by omega) HU).mono ?_
        rintro e w5 ⟨D, q, rfl, hR, hno, hb⟩
        have HB4 := Kept.mk (HB3.out.trans (hb.mono HB3.out.size))
        have HRC5 := Kept.mk (HRC.out.below hb)
        have HRD := hR
        have HnoD := hno
        clear hb hR hno
        have HR0 : Kept (RT w5 w5 (.slice none 0 0) []) := ⟨⟨World.ownsRow_nil _ _ _ _, Below.refl _ _⟩⟩
        obtain ⟨i0, hi, hz0, hz1, hz2⟩ := info_parts tokInfo
        have T3 : Kept True := ⟨trivial⟩
        have T4 : Kept True := ⟨trivial⟩
        have HTl : Kept (ts.length ≤ 500 ∧ us.length ≤ 500) := ⟨⟨hts, hus⟩⟩
        clear hts hus
        go_wp2_with (first
          | (at_builtin
             have := T3
             refine wpList_append_toks rfl _ _ rfl rfl HR0.out rfl HRC5.out HnoC.out (by have := HTl.out.1; simp; omega) ?_
             intro v6 w6 h6
             have HR6 := Kept.mk h6
             clear T3 this h6)
          | (at_builtin
             have := T4
             refine wpList_append_own _ rfl _ _ 26 rfl w5.heap.size 35 i0 _ 2 24 Tryd.underlying26 hi hz0 hz1 hz2 rfl (by decide) _ _ _ rfl (own_keep HR6.out.own fun g _ h2 => Below.heap_alloc w6 _ g h2) ⟨w6.heap.size, 0, none⟩ 1 1 (tv ⟨2, [10]⟩) rfl rfl (tv_new w6 ⟨2, [10]⟩ _) (tv_one _) (by unfold maxLen; have := HTl.out.1; simp; omega) (by have := HTl.out.1; simp; omega) (by have := HR6.out.bel.size; simp; omega) ?_
             intro v7 w7 ho7 hg7 hnn
             have HR7 : Kept (RT w5 w7 v7 ([] ++ ts ++ [⟨2, [10]⟩])) := ⟨HR6.out.go hg7 ho7⟩
             clear ho7 hg7 hnn T4 this)
          | (at_builtin
             refine wpList_append_toks rfl _ _ rfl rfl HR7.out rfl (HRD.out.below HR7.out.bel) HnoD.out (by have := HTl.out; simp; omega) ?_
             intro v8 w8 h8
             rw [List.nil_append, ← HAll.out] at h8
             have HB8 : Kept (Below w.heap.size w w8) := ⟨HB4.out.trans (h8.bel.mono HB4.out.size)⟩
             obtain ⟨F, f, rfl, hF, _, _⟩ := Rt.of_own h8.own
             have HF := Kept.mk hF
             have T5 : Kept True := ⟨trivial⟩
             clear h8 hF)
          | (go_at_call 9
             have := T5
             refine (tokens_ok (x ++ lineB ++ y) w8 all (HK.out.below HB8.out) HZ1.out HW1).mono ?_
             rintro e w9 ⟨G, r, rfl, hR, hb⟩
             have HB9 := Kept.mk (HB8.out.trans (hb.mono HB8.out.size))
             have HF9 := Kept.mk (And.intro (HF.out.below hb) hR.out)
             clear hb hR T5 this)
          | (go_at_call 9
             refine (tokens_ok (x ++ commB ++ y) w9 all (HK.out.below HB9.out) HZ2.out HW2).mono ?_
             rintro e w10 ⟨G2, r2, rfl, hR, hb⟩
             have HB10 := Kept.mk (HB9.out.trans (hb.mono HB9.out.size))
             have HF10 := Kept.mk (And.intro (HF9.out.1.below hb) (And.intro (HF9.out.2.below hb) hR.out))
             have T6 : Kept True := ⟨trivial⟩
             clear hb hR)
          | (go_at_call 12
             have := T6
             refine (same_any all _ _ G F r f w10 HF10.out.2.1 HF10.out.1 HAl.out rfl rfl).mono ?_
             rintro e w11 ⟨rfl, hb⟩
             have HB11 := Kept.mk (HB10.out.trans (hb.mono HB10.out.size))
             have HF11 := Kept.mk (And.intro (HF10.out.1.below hb) (HF10.out.2.2.below hb))
             clear hb T6 this)
          | (go_at_call 12
             refine (same_any all _ _ G2 F r2 f w11 HF11.out.2 HF11.out.1 HAl.out rfl rfl).mono ?_
             rintro e w12 ⟨rfl, hb⟩
             have HB12 := Kept.mk (HB11.out.trans (hb.mono HB11.out.size))
             clear hb))
        go_ret
        exact ⟨rfl, HB12.out⟩
  | false =>
    by_cases hxs : raw.size ≤ 500
    · by_cases hys : tt.size ≤ 500
      · have hxi : ¬ (500 : Int) < raw.size := by omega
        have hyi : ¬ (500 : Int) < tt.size := by omega
        go_enter Tryd.func6, Tryd.ntmps6
        go_wp2_with (go_at_call 11; refine (awake_any w HK.out).mono ?_; rintro e w3 ⟨rfl, hb⟩; have HB2 := Kept.mk hb; clear hb)
        have T2 : Kept True := ⟨trivial⟩
        cases ht : toks (toL raw) with
        | none =>
          have HT := Kept.mk ht
          clear ht
          cases hu : toks (toL tt) with
          | none =>
            have HU := Kept.mk hu
            clear hu
            go_wp2_with (first
              | (go_at_call 9; have := T2; refine (tokens_no raw w3 (HK.out.below HB2.out) (by omega) HT).mono ?_; rintro e w4 ⟨rfl, hb⟩; have HB3 := Kept.mk (HB2.out.trans (hb.mono HB2.out.size)); clear T2 this hb)
              | (go_at_call 9; refine (tokens_no tt w4 (HK.out.below HB3.out) (by omega) HU).mono ?_; rintro e w5 ⟨rfl, hb⟩; have HB4 := Kept.mk (HB3.out.trans (hb.mono HB3.out.size)); clear hb))
            go_ret
            exact ⟨rfl, HB4.out⟩
          | some us =>
            have HU := Kept.mk hu
            clear hu
            go_wp2_with (first
              | (go_at_call 9; have := T2; refine (tokens_no raw w3 (HK.out.below HB2.out) (by omega) HT).mono ?_; rintro e w4 ⟨rfl, hb⟩; have HB3 := Kept.mk (HB2.out.trans (hb.mono HB2.out.size)); clear T2 this hb)
              | (go_at_call 9; refine (tokens_ok tt w4 us (HK.out.below HB3.out) (by omega) HU).mono ?_; rintro e w5 ⟨C, p, rfl, hR, hb⟩; have HB4 := Kept.mk (HB3.out.trans (hb.mono HB3.out.size)); clear hR hb))
            go_ret
            exact ⟨rfl, HB4.out⟩
        | some ts =>
          have HT := Kept.mk ht
          have hsz := goes_size (goes_iff.1 ht)
          rw [toL_length] at hsz
          have hts : ts.length ≤ 500 := by omega
          clear hsz
          cases hu : toks (toL tt) with
          | none =>
            have HU := Kept.mk hu
            clear hu ht
            go_wp2_with (first
              | (go_at_call 9; have := T2; refine (tokens_ok raw w3 ts (HK.out.below HB2.out) (by omega) HT).mono ?_; rintro e w4 ⟨C, p, rfl, hR, hb⟩; have HB3 := Kept.mk (HB2.out.trans (hb.mono HB2.out.size)); clear T2 this hb hR)
              | (go_at_call 9; refine (tokens_no tt w4 (HK.out.below HB3.out) (by omega) HU).mono ?_; rintro e w5 ⟨rfl, hb⟩; have HB4 := Kept.mk (HB3.out.trans (hb.mono HB3.out.size)); clear hb))
            go_ret
            exact ⟨rfl, HB4.out⟩
          | some us =>
            have HU := Kept.mk hu
            have hsz := goes_size (goes_iff.1 hu)
            rw [toL_length] at hsz
            have hus : us.length ≤ 500 := by omega
            obtain ⟨all, hall⟩ : ∃ all, all = ts ++ [(⟨2, [10]⟩ : Tok)] ++ us := ⟨_, rfl⟩
            have HAll := Kept.mk hall
            have HW1 : Kept (toks (toL (raw ++ lineB ++ tt)) = some all) := ⟨by rw [hall]; exact two_line ht hu⟩
            have HW2 : Kept (toks (toL (raw ++ commB ++ tt)) = some all) := ⟨by rw [hall]; exact two_comm ht hu⟩
            have HAl : Kept (all.length ≤ 1000000) := ⟨by rw [hall]; simp; omega⟩
            have HZ1 : Kept ((raw ++ lineB ++ tt).size ≤ 20000) := ⟨by rw [ByteArray.size_append, ByteArray.size_append]; show raw.size + 1 + tt.size ≤ 20000; omega⟩
            have HZ2 : Kept ((raw ++ commB ++ tt).size ≤ 20000) := ⟨by rw [ByteArray.size_append, ByteArray.size_append]; show raw.size + 8 + tt.size ≤ 20000; omega⟩
            have q1 : ¬ 9223372036854775807 < raw.size + (⟨#[10]⟩ : ByteArray).size := by show ¬ _ < raw.size + 1; omega
            have q2 : ¬ 9223372036854775807 < (raw ++ (⟨#[10]⟩ : ByteArray)).size + tt.size := by rw [ByteArray.size_append]; show ¬ _ < raw.size + 1 + tt.size; omega
            have q3 : ¬ 9223372036854775807 < raw.size + (⟨#[32, 35, 32, 39, 32, 40, 32, 10]⟩ : ByteArray).size := by show ¬ _ < raw.size + 8; omega
            have q4 : ¬ 9223372036854775807 < (raw ++ (⟨#[32, 35, 32, 39, 32, 40, 32, 10]⟩ : ByteArray)).size + tt.size := by rw [ByteArray.size_append]; show ¬ _ < raw.size + 8 + tt.size; omega
            clear hsz hu ht hall
            go_wp2_with fail
            refine (tokens_ok2 raw w3 ts (HK.out.below HB2.out) (by omega) HT).mono ?_
            rintro e w4 ⟨C, p, rfl, hR, hno, hb⟩
            have HB3 := Kept.mk (HB2.out.trans (hb.mono HB2.out.size))
            have HRC := hR
            have HnoC := hno
            clear hb hR hno
            go_wp2_with fail
            go_at_call 9
            refine (tokens_ok2 tt w4 us (HK.out.below HB3.out) (by omega) HU).mono ?_
            rintro e w5 ⟨D, q, rfl, hR, hno, hb⟩
            have HB4 := Kept.mk (HB3.out.trans (hb.mono HB3.out.size))
            have HRC5 := Kept.mk (HRC.out.below hb)
            have HRD := hR
            have HnoD := hno
            clear hb hR hno
            have HR0 : Kept (RT w5 w5 (.slice none 0 0) []) := ⟨⟨World.ownsRow_nil _ _ _ _, Below.refl _ _⟩⟩
            obtain ⟨i0, hi, hz0, hz1, hz2⟩ := info_parts tokInfo
            have T3 : Kept True := ⟨trivial⟩
            have T4 : Kept True := ⟨trivial⟩
            have HTl : Kept (ts.length ≤ 500 ∧ us.length ≤ 500) := ⟨⟨hts, hus⟩⟩
            clear hts hus
            go_wp2_with (first
              | (at_builtin
                 have := T3
                 refine wpList_append_toks rfl _ _ rfl rfl HR0.out rfl HRC5.out HnoC.out (by have := HTl.out.1; simp; omega) ?_
                 intro v6 w6 h6
                 have HR6 := Kept.mk h6
                 clear T3 this h6)
              | (at_builtin
                 have := T4
                 refine wpList_append_own _ rfl _ _ 26 rfl w5.heap.size 35 i0 _ 2 24 Tryd.underlying26 hi hz0 hz1 hz2 rfl (by decide) _ _ _ rfl (own_keep HR6.out.own fun g _ h2 => Below.heap_alloc w6 _ g h2) ⟨w6.heap.size, 0, none⟩ 1 1 (tv ⟨2, [10]⟩) rfl rfl (tv_new w6 ⟨2, [10]⟩ _) (tv_one _) (by unfold maxLen; have := HTl.out.1; simp; omega) (by have := HTl.out.1; simp; omega) (by have := HR6.out.bel.size; simp; omega) ?_
                 intro v7 w7 ho7 hg7 hnn
                 have HR7 : Kept (RT w5 w7 v7 ([] ++ ts ++ [⟨2, [10]⟩])) := ⟨HR6.out.go hg7 ho7⟩
                 clear ho7 hg7 hnn T4 this)
              | (at_builtin
                 refine wpList_append_toks rfl _ _ rfl rfl HR7.out rfl (HRD.out.below HR7.out.bel) HnoD.out (by have := HTl.out; simp; omega) ?_
                 intro v8 w8 h8
                 rw [List.nil_append, ← HAll.out] at h8
                 have HB8 : Kept (Below w.heap.size w w8) := ⟨HB4.out.trans (h8.bel.mono HB4.out.size)⟩
                 obtain ⟨F, f, rfl, hF, _, _⟩ := Rt.of_own h8.own
                 have HF := Kept.mk hF
                 have T5 : Kept True := ⟨trivial⟩
                 clear h8 hF)
              | (go_at_call 9
                 have := T5
                 refine (tokens_ok (raw ++ lineB ++ tt) w8 all (HK.out.below HB8.out) HZ1.out HW1).mono ?_
                 rintro e w9 ⟨G, r, rfl, hR, hb⟩
                 have HB9 := Kept.mk (HB8.out.trans (hb.mono HB8.out.size))
                 have HF9 := Kept.mk (And.intro (HF.out.below hb) hR.out)
                 clear hb hR T5 this)
              | (go_at_call 9
                 refine (tokens_ok (raw ++ commB ++ tt) w9 all (HK.out.below HB9.out) HZ2.out HW2).mono ?_
                 rintro e w10 ⟨G2, r2, rfl, hR, hb⟩
                 have HB10 := Kept.mk (HB9.out.trans (hb.mono HB9.out.size))
                 have HF10 := Kept.mk (And.intro (HF9.out.1.below hb) (And.intro (HF9.out.2.below hb) hR.out))
                 have T6 : Kept True := ⟨trivial⟩
                 clear hb hR)
              | (go_at_call 12
                 have := T6
                 refine (same_any all _ _ G F r f w10 HF10.out.2.1 HF10.out.1 HAl.out rfl rfl).mono ?_
                 rintro e w11 ⟨rfl, hb⟩
                 have HB11 := Kept.mk (HB10.out.trans (hb.mono HB10.out.size))
                 have HF11 := Kept.mk (And.intro (HF10.out.1.below hb) (HF10.out.2.2.below hb))
                 clear hb T6 this)
              | (go_at_call 12
                 refine (same_any all _ _ G2 F r2 f w11 HF11.out.2 HF11.out.1 HAl.out rfl rfl).mono ?_
                 rintro e w12 ⟨rfl, hb⟩
                 have HB12 := Kept.mk (HB11.out.trans (hb.mono HB11.out.size))
                 clear hb))
            go_ret
            exact ⟨rfl, HB12.out⟩
      · have hxi : ¬ (500 : Int) < raw.size := by omega
        have hyi : (500 : Int) < tt.size := by omega
        clear hxs hys
        go_enter Tryd.func6, Tryd.ntmps6
        go_wp2_with (go_at_call 11; refine (awake_any w HK.out).mono ?_; rintro e w2 ⟨rfl, hb⟩; have HB2 := Kept.mk hb; clear hb)
        go_ret
        exact ⟨rfl, HB2.out⟩
    · have hxi : (500 : Int) < raw.size := by omega
      clear hxs
      go_enter Tryd.func6, Tryd.ntmps6
      go_wp2_with (go_at_call 11; refine (awake_any w HK.out).mono ?_; rintro e w2 ⟨rfl, hb⟩; have HB2 := Kept.mk hb; clear hb)
      go_ret
      exact ⟨rfl, HB2.out⟩
end Lx
end Go.Proofs.YtnafecdionhnfaaDoor
