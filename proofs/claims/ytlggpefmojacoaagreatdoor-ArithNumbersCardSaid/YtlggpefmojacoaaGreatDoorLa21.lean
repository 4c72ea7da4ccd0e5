/-
  Parts of the proof, merged.
-/
import Derived.Defers
import Derived.Recover
import Derived.Test.YtlggpefmojacoaaGreatDoorLa20
namespace Go.Proofs.YtlggpefmojacoaaGreatDoor
section
open Go.RowKit Tx
namespace Ar
def ValE (o : Option Int) (e : Ending) : Prop := match o with
 | some n => e = .returned (.tuple #[.int .i64 n, .bool true])
 | none => ∃ m, e = .returned (.tuple #[.int .i64 m, .bool false])
theorem cutP (x : ByteArray) (y : ByteArray) (q : Bool) (h : Lib.hasPrefix (toL x) [45] = q) (hy : bs (Lib.trimPrefix (toL x) [45]) = y) (w : World) : Calls Tryz.prog 75 #[.string x, .string (bs [45])] w fun e w' => e = .returned (.tuple #[.string y, .bool q]) ∧ w = w' := by
 refine (Tryz.strings_CutPrefix x (bs [45]) w).mono ?_
 rintro e w' ⟨rfl, rfl⟩
 exact ⟨by rw [← h, ← hy]; rfl, rfl⟩
set_option maxHeartbeats 4000000 in
set_option maxRecDepth 100000 in
theorem val_any (x : ByteArray) (hlim : x.size ≤ 281474976710656) (w : World) (hK : KT w) : Calls Tryz.prog 52 #[.string x] w fun e w' => ValE (valV (toL x)) e ∧ Below w.heap.size w w' := by
 have HK := Kept.mk hK
 have HL := Kept.mk hlim
 clear hK hlim
 by_cases h0 : toL x = []
 · have HV : Kept (valV (toL x) = some 0) := ⟨by rw [h0]; rfl⟩
   obtain rfl : x = ⟨#[]⟩ := toL_inj (h0.trans rfl)
   clear h0
   rw [HV.out]
   go_enter Tryz.func52, Tryz.ntmps52
   go_wp2_with fail
   go_ret2
   exact ⟨rfl, Below.refl _ _⟩
 · have hx : (x.toList == []) = false := by rw [tl, beq_eq_false_iff_ne]; exact h0
   by_cases h1 : ∃ r, toL x = 45 :: r
   · obtain ⟨r, hr⟩ := h1
     have HP : Kept (Lib.hasPrefix (toL x) [45] = true) := ⟨by rw [hr]; simp [Lib.hasPrefix]⟩
     have HT : Kept (bs (Lib.trimPrefix (toL x) [45]) = bs r) := ⟨by unfold Lib.trimPrefix; rw [HP.out, hr]; rfl⟩
     have HS : Kept ((bs r).size ≤ 281474976710656) := ⟨by have := HL.out; rw [← toL_length, hr, List.length_cons] at this; rw [bs_size]; omega⟩
     have HLt : Kept (∀ W, KT W → Calls Tryz.prog 76 #[.string (bs r)] W fun e w' => LitE (litV r) e ∧ Below W.heap.size W w') := ⟨fun W hW => by have := lit_any (bs r) HS.out W hW; rwa [toL_bs] at this⟩
     have HV : Kept (valV (toL x) = (litV r).map fun n => -(n : Int)) := ⟨by rw [hr]; rfl⟩
     have HLe : Kept (∀ n, litV r = some n → n ≤ 9223372036854775807) := ⟨fun n e => litV_le e⟩
     rw [HV.out]
     clear hr HV h0
     cases ho : litV r with
     | some n =>
       rw [ho] at HLt HLe
       have hwr : IntKind.i64.wrap (-(n : Int)) = -(n : Int) := IntWalk.i64_in _ (by have := HLe.out n rfl; omega)
       clear ho
       go_enter Tryz.func52, Tryz.ntmps52
       go_wp2_with (first
         | (go_at_call 75; refine (cutP x _ _ HP.out HT.out _).mono ?_; rintro e w1 ⟨rfl, rfl⟩)
         | (go_at_call 76; refine (HLt.out _ HK.out).mono ?_; rintro e w2 ⟨he, hb⟩; have HB := Kept.mk hb; obtain rfl := he; clear hb))
       go_ret2
       exact ⟨rfl, HB.out⟩
     | none =>
       rw [ho] at HLt
       clear ho
       go_enter Tryz.func52, Tryz.ntmps52
       go_wp2_with (first
         | (go_at_call 75; refine (cutP x _ _ HP.out HT.out _).mono ?_; rintro e w1 ⟨rfl, rfl⟩)
         | (go_at_call 76; refine (HLt.out _ HK.out).mono ?_; rintro e w2 ⟨he, hb⟩; have HB := Kept.mk hb; obtain rfl := he; clear hb))
       go_ret2
       exact ⟨⟨_, rfl⟩, HB.out⟩
   · have HP : Kept (Lib.hasPrefix (toL x) [45] = false) := ⟨by
       cases hx : toL x with
       | nil => rfl
       | cons c r =>
         have : ¬ 45 = c := fun e => h1 ⟨r, by rw [hx, e]⟩
         simp [Lib.hasPrefix, List.isPrefixOf, this]⟩
     have HT : Kept (bs (Lib.trimPrefix (toL x) [45]) = x) := ⟨by unfold Lib.trimPrefix; rw [HP.out]; exact bs_toL x⟩
     have HV : Kept (valV (toL x) = (litV (toL x)).map fun n => (n : Int)) := ⟨by
       cases hx : toL x with
       | nil => exact absurd hx h0
       | cons c r =>
         have : ¬ c = 45 := fun e => h1 ⟨r, by rw [hx, e]⟩
         simp [valV]
         split
         · rename_i heq; cases heq
         · rename_i heq; cases heq; exact absurd rfl this
         · rfl⟩
     have HLt : Kept (∀ W, KT W → Calls Tryz.prog 76 #[.string x] W fun e w' => LitE (litV (toL x)) e ∧ Below W.heap.size W w') := ⟨fun W hW => lit_any x HL.out W hW⟩
     rw [HV.out]
     clear HV h0 h1
     cases ho : litV (toL x) with
     | some n =>
       rw [ho] at HLt
       clear ho
       go_enter Tryz.func52, Tryz.ntmps52
       go_wp2_with (first
         | (go_at_call 75; refine (cutP x _ _ HP.out HT.out _).mono ?_; rintro e w1 ⟨rfl, rfl⟩)
         | (go_at_call 76; refine (HLt.out _ HK.out).mono ?_; rintro e w2 ⟨he, hb⟩; have HB := Kept.mk hb; obtain rfl := he; clear hb))
       go_ret2
       exact ⟨rfl, HB.out⟩
     | none =>
       rw [ho] at HLt
       clear ho
       go_enter Tryz.func52, Tryz.ntmps52
       go_wp2_with (first
         | (go_at_call 75; refine (cutP x _ _ HP.out HT.out _).mono ?_; rintro e w1 ⟨rfl, rfl⟩)
         | (go_at_call 76; refine (HLt.out _ HK.out).mono ?_; rintro e w2 ⟨he, hb⟩; have HB := Kept.mk hb; obtain rfl := he; clear hb))
       go_ret2
       exact ⟨⟨_, rfl⟩, HB.out⟩
set_option maxHeartbeats 2000000 in
set_option maxRecDepth 100000 in
theorem cut_any (s : ByteArray) (w : World) (hs : s.size ≤ 1000000) : Calls Tryz.prog 50 #[.string s] w fun e w' => e = .returned (.tuple #[.string (bs (cutT (toL s))), .string (bs (cutR (toL s)))]) ∧ Below w.heap.size w w' := by
 have HZ := Kept.mk hs
 obtain ⟨t, ht⟩ : ∃ t, t = bs (trim (toL s)) := ⟨_, rfl⟩
 have HtL : Kept (toL t = trim (toL s)) := ⟨by rw [ht, toL_bs]⟩
 have HT := Kept.mk ht.symm
 have HS : Kept (t.size ≤ 1000000) := ⟨by rw [← toL_length, HtL.out]; have := trim_le (toL s); rw [toL_length] at this; exact Nat.le_trans this hs⟩
 obtain ⟨n, hn⟩ : ∃ n, n = tokL (toL t) := ⟨_, rfl⟩
 have HN := Kept.mk hn.symm
 have hle : n ≤ t.size := by rw [hn, ← toL_length]; exact tokL_le _
 have hto := str_to t n hle
 have hfrom := str_from t n hle
 have hleI : (n : Int) ≤ (t.size : Int) := by omega
 have HE1 : Kept (bs (cutT (toL s)) = t.extract 0 n) := ⟨toL_inj (by rw [toL_bs, ext_to, HtL.out, ← HN.out, HtL.out]; rfl)⟩
 have HE2 : Kept (bs (cutR (toL s)) = t.extract n t.size) := ⟨toL_inj (by rw [toL_bs, ext_from, HtL.out, ← HN.out, HtL.out]; rfl)⟩
 rw [HE1.out, HE2.out]
 clear hs ht hn HtL HE1 HE2
 go_enter Tryz.func50, Tryz.ntmps50
 go_wp2_with (first
   | (go_at_call 72; refine (trimLeft_any s _ HZ.out).mono ?_; rintro e w1 ⟨rfl, hb⟩; rw [HT.out]; have HB := Kept.mk hb; clear hb)
   | (go_at_call 73; refine (tokenLength_any t _ HS.out).mono ?_; rintro e w2 ⟨rfl, rfl⟩; rw [HN.out]))
 go_quiet (fail)
 go_wp2_with fail
 go_ret2
 exact ⟨rfl, below_drewN HB.out _⟩
end Ar
end
section
open Go.RowKit Tx
namespace Ar
def pan (n : Int) : List PanicEntry := [{ v := .iface 36 (.int .i64 n), recovered := false }]
def textT : List Tok → Tok
 | [] => []
 | t :: _ => t
theorem text_toks (x : List UInt8) : textT (toks x) = cutT x := by
 by_cases h : cutT x = []
 · rw [toks_nil h, h]; rfl
 · rw [toks_cons h]; rfl
theorem tail_toks (x : List UInt8) : toks (cutR x) = (toks x).tail := by
 by_cases h : cutT x = []
 · have h1 : cutR x = [] := by
     unfold cutR
     rw [cutT_nil.1 h]
     exact List.drop_nil
   rw [toks_nil h, h1]
   rfl
 · rw [toks_cons h]; rfl
theorem toks_ne {x : List UInt8} : ∀ t ∈ toks x, t ≠ [] := by
 have : ∀ (n : Nat) (x : List UInt8), x.length ≤ n → ∀ t ∈ toks x, t ≠ [] := by
   intro n
   induction n with
   | zero =>
     intro x hx t ht
     have : x = [] := List.eq_nil_of_length_eq_zero (by omega)
     subst this
     cases ht
   | succ n ih =>
     intro x hx t ht
     by_cases h : cutT x = []
     · rw [toks_nil h] at ht; cases ht
     · rw [toks_cons h] at ht
       rcases List.mem_cons.1 ht with rfl | h2
       · exact h
       · exact ih _ (by have := cutR_lt h; omega) t h2
 exact this _ x (Nat.le_refl _)
structure PM (w : World) (g d : Nat) (ts : List Tok) : Prop where
 row : ∃ x : List UInt8, toks x = ts ∧ x.length ≤ 1000000 ∧ w.heap[g]? = some (.cells #[.string (bs (cutT x)), .string (bs (cutR x)), .int .i64 (d : Int)] 71 (0, 0))
 kb : ∃ B, B ≤ g ∧ KB B w
 deep : d ≤ 40
section
variable {w w' : World} {g d : Nat} {ts : List Tok}
theorem PM.lt (h : PM w g d ts) : g < w.heap.size := by
 obtain ⟨x, _, _, hr⟩ := h.row
 exact (Array.getElem?_eq_some_iff.1 hr).1
theorem PM.keep (h : PM w g d ts) (ho : Only (· = g) w w') (hb : w'.heap[g]? = w.heap[g]?) : PM w' g d ts := by
 obtain ⟨x, h1, h2, hr⟩ := h.row
 obtain ⟨B, hB, hk⟩ := h.kb
 exact ⟨⟨x, h1, h2, hb.trans hr⟩, ⟨B, hB, hk.only ho hB⟩, h.deep⟩
theorem PM.below (h : PM w g d ts) (hb : Below w.heap.size w w') : PM w' g d ts := h.keep ((Only.refl _ _).below hb) (hb.block g h.lt)
theorem PM.kt (h : PM w g d ts) : KT w := by
 obtain ⟨B, _, hk⟩ := h.kb
 exact hk.kt
theorem PM.to {x : List UInt8} {us : List Tok} {d' : Nat} (h : PM w g d ts) (ho : Only (· = g) w w') (hx : x.length ≤ 1000000) (hu : toks x = us) (hr : w'.heap[g]? = some (.cells #[.string (bs (cutT x)), .string (bs (cutR x)), .int .i64 (d' : Int)] 71 (0, 0))) (hd : d' ≤ 40) : PM w' g d' us := by
 obtain ⟨B, hB, hk⟩ := h.kb
 exact ⟨⟨x, hu, hx, hr⟩, ⟨B, hB, hk.only ho hB⟩, hd⟩
end
theorem only_below {w w1 w2 : World} {g : Nat} (h : Below w.heap.size w w1) (k : Only (· = g) w1 w2) : Only (· = g) w w2 := ((Only.refl _ _).below h).trans k fun _ _ e => e
theorem only_on {w w1 w2 : World} {g : Nat} (h : Only (· = g) w w1) (k : Below w1.heap.size w1 w2) : Only (· = g) w w2 := h.below k
theorem only_two {w w1 w2 : World} {g : Nat} (h : Only (· = g) w w1) (k : Only (· = g) w1 w2) : Only (· = g) w w2 := h.trans k fun _ _ e => e
theorem bs_eq (t : List UInt8) (x : ByteArray) : ((bs t).toList == x.toList) = decide (t = toL x) := by
 rw [tl, tl, toL_bs]
 by_cases h : t = toL x
 · rw [h]; simp
 · rw [decide_eq_false h, beq_eq_false_iff_ne]; exact h
theorem text_nil {x : List UInt8} : (textT (toks x)).isEmpty = (toks x).isEmpty := by
 cases h : toks x with
 | nil => rfl
 | cons t r =>
   have := toks_ne (x := x) t (by rw [h]; simp)
   cases t with
   | nil => exact absurd rfl this
   | cons c q => rfl
set_option maxRecDepth 100000 in
theorem ended_any (w : World) (g d : Nat) (ts : List Tok) (h : PM w g d ts) (t : Bool) (ht : t = ts.isEmpty) :
   Calls Tryz.prog 29 #[.pointer (some ⟨g, 0, none⟩)] w fun e w' => e = .returned (.bool t) ∧ w = w' := by
 obtain ⟨x, hx, _, hr⟩ := h.row
 have c0 := cell_of_row w g 0 _ _ _ hr
 have HT : Kept ((bs (cutT x)).toList.isEmpty = t) := ⟨by rw [tl, toL_bs, ht, ← hx, ← text_nil, text_toks]⟩
 generalize bs (cutT x) = y at c0 HT hr
 clear h ht hr hx
 go_enter Tryz.func29, Tryz.ntmps29
 go_wp2_with fail
 go_ret
 exact ⟨by rw [← HT.out]; rfl, rfl⟩
set_option maxHeartbeats 1000000 in
set_option maxRecDepth 100000 in
theorem skip_raw (w : World) (g d : Nat) (t0 s : ByteArray) (hr : w.heap[g]? = some (.cells #[.string t0, .string s, .int .i64 (d : Int)] 71 (0, 0))) (hk : ∃ B, B ≤ g ∧ KB B w) (hs : s.size ≤ 1000000) (hd : d ≤ 40) :
   Calls Tryz.prog 37 #[.pointer (some ⟨g, 0, none⟩)] w fun e w' => e = .returned (.tuple #[]) ∧ Kept (PM w' g d (toks (toL s))) ∧ Kept (Only (· = g) w w') := by
 have c1 := cell_of_row w g 1 _ _ _ hr
 have HS := Kept.mk hs
 have HR := Kept.mk hr
 have HK := Kept.mk hk
 have HD := Kept.mk hd
 have HLt : Kept (g < w.heap.size) := ⟨(Array.getElem?_eq_some_iff.1 hr).1⟩
 obtain ⟨y, hy⟩ : ∃ y, y = toL s := ⟨_, rfl⟩
 have HX := Kept.mk hy.symm
 have HLn : Kept (y.length ≤ 1000000) := ⟨by rw [hy, toL_length]; exact hs⟩
 rw [← hy]
 clear hs hr hk hd hy
 go_enter Tryz.func37, Tryz.ntmps37
 go_wp2_with (go_at_call 50; refine (cut_any s _ HS.out).mono ?_; rintro e w1 ⟨rfl, hb⟩; rw [HX.out]; have HB := Kept.mk hb; have HR1 := Kept.mk ((hb.block g HLt.out).trans HR.out); have e0 := cell_of_row w1 g 0 _ _ _ HR1.out; have e1 := cell_of_row w1 g 1 _ _ _ HR1.out; have f0 := frozen_of_row w1 g 0 _ _ HR1.out; have f1 := frozen_of_row w1 g 1 _ _ HR1.out; clear hb)
 refine bodyPost_end (results_none rfl _ _ _) rfl ?_
 have hr1 := heap_setCell_same w1 g 0 _ _ (.string (bs (cutT y))) HR1.out
 have hr2 := heap_setCell_same _ g 1 _ _ (.string (bs (cutR y))) hr1
 have ho : Only (· = g) w ((w1.setCell ⟨g, 0, none⟩ (.string (bs (cutT y)))).setCell ⟨g, 1, none⟩ (.string (bs (cutR y)))) := ((((Only.refl (· = g) w).below HB.out).setCell ⟨g, 0, none⟩ _ (fun _ => rfl)).setCell ⟨g, 1, none⟩ _ (fun _ => rfl))
 obtain ⟨B, hB, hk⟩ := HK.out
 exact ⟨rfl, ⟨⟨⟨y, rfl, HLn.out, by simpa using hr2⟩, ⟨B, hB, hk.only ho hB⟩, HD.out⟩⟩, ⟨ho⟩⟩
theorem skip_any (w : World) (g d : Nat) (ts : List Tok) (h : PM w g d ts) :
   Calls Tryz.prog 37 #[.pointer (some ⟨g, 0, none⟩)] w fun e w' => e = .returned (.tuple #[]) ∧ Kept (PM w' g d ts.tail) ∧ Kept (Only (· = g) w w') := by
 obtain ⟨x, hx, hl, hr⟩ := h.row
 have := skip_raw w g d _ _ hr h.kb (by rw [bs_size]; exact Nat.le_trans (cutR_le x) hl) h.deep
 rw [toL_bs, tail_toks, hx] at this
 exact this
set_option maxRecDepth 100000 in
theorem take_any (w : World) (g d : Nat) (ts : List Tok) (h : PM w g d ts) :
   Calls Tryz.prog 64 #[.pointer (some ⟨g, 0, none⟩)] w fun e w' => e = .returned (.string (bs (textT ts))) ∧ Kept (PM w' g d ts.tail) ∧ Kept (Only (· = g) w w') := by
 have H := Kept.mk h
 obtain ⟨x, hx, hl, hr⟩ := h.row
 have c0 := cell_of_row w g 0 _ _ _ hr
 have HT : Kept (bs (cutT x) = bs (textT ts)) := ⟨by rw [← hx, text_toks]⟩
 generalize bs (cutT x) = t0 at HT c0 hr
 clear h hx hl hr
 go_enter Tryz.func64, Tryz.ntmps64
 go_wp2_with (go_at_call 37; refine (skip_any _ g d ts H.out).mono ?_; rintro e w2 ⟨rfl, hp, ho⟩; have HP := hp; have HO := ho; clear hp ho)
 go_ret
 exact ⟨by rw [← HT.out]; rfl, HP, HO⟩
def chk (t : Bool) (f : Int) (w : World) (e : Ending) (w' : World) : Prop :=
 match t with
 | true => e = .returned (.tuple #[]) ∧ w = w'
 | false => e = .panicked (pan f) ∧ w = w'
set_option maxRecDepth 100000 in
theorem check_any (w : World) (t : Bool) (f : Int) : Calls Tryz.prog 44 #[.bool t, .int .i64 f] w (chk t f w) := by
 cases t with
 | true =>
   go_enter Tryz.func44, Tryz.ntmps44
   go_wp2_with fail
   refine bodyPost_end (results_none rfl _ _ _) rfl ?_
   exact ⟨rfl, rfl⟩
 | false =>
   go_enter Tryz.func44, Tryz.ntmps44
   go_wp2_with fail
   first | exact ⟨rfl, rfl, rfl⟩ | exact ⟨rfl, rfl⟩
set_option maxRecDepth 100000 in
theorem expect_yes (w : World) (g d : Nat) (x : ByteArray) (r : List Tok) (h : PM w g d (toL x :: r)) :
   Calls Tryz.prog 85 #[.pointer (some ⟨g, 0, none⟩), .string x] w fun e w' => e = .returned (.tuple #[]) ∧ Kept (PM w' g d r) ∧ Kept (Only (· = g) w w') := by
 have H := Kept.mk h
 obtain ⟨y, hy, hl, hr⟩ := h.row
 have c0 : w.cell? ⟨g, 0, none⟩ = some (.string x) := (cell_of_row w g 0 _ _ _ hr).trans (by rw [← text_toks, hy]; show some (Value.string (bs (toL x))) = _; rw [bs_toL])
 clear h hy hl hr
 go_enter Tryz.func85, Tryz.ntmps85
 go_wp2_with (first
   | (go_at_call 44; refine (check_any _ true 130).mono ?_; rintro e w2 ⟨rfl, rfl⟩)
   | (go_at_call 37; refine (skip_any _ g d _ H.out).mono ?_; rintro e w2 ⟨rfl, hp, ho⟩; have HP := hp; have HO := ho; clear hp ho))
 refine bodyPost_end (results_none rfl _ _ _) rfl ?_
 exact ⟨rfl, HP, HO⟩
set_option maxRecDepth 100000 in
theorem expect_no (w : World) (g d : Nat) (x : ByteArray) (ts : List Tok) (h : PM w g d ts) (hn : textT ts ≠ toL x) :
   Calls Tryz.prog 85 #[.pointer (some ⟨g, 0, none⟩), .string x] w fun e w' => e = .panicked (pan 130) ∧ w = w' := by
 obtain ⟨y, hy, hl, hr⟩ := h.row
 have c0 := cell_of_row w g 0 _ _ _ hr
 have hq : ((bs (cutT y)).toList == x.toList) = false := by rw [bs_eq, ← text_toks, hy]; exact decide_eq_false hn
 generalize bs (cutT y) = t0 at hq c0 hr
 clear h hy hl hr hn
 go_enter Tryz.func85, Tryz.ntmps85
 go_wp2_with (go_at_call 44; refine (check_any _ false 130).mono ?_; rintro e w2 ⟨rfl, rfl⟩)
 first | exact ⟨rfl, rfl, rfl⟩ | exact ⟨rfl, rfl⟩
set_option maxRecDepth 100000 in
theorem depth_any (w : World) (g d : Nat) (ts : List Tok) (h : PM w g d ts) (t : Bool) (ht : t = decide (d ≤ 30)) :
   Calls Tryz.prog 60 #[.pointer (some ⟨g, 0, none⟩)] w (chk t 2 w) := by
 obtain ⟨y, hy, hl, hr⟩ := h.row
 have c2 := cell_of_row w g 2 _ _ _ hr
 have hd := h.deep
 have HT : Kept (decide ((d : Int) ≤ 30) = t) := ⟨by rw [ht, decide_eq_decide]; omega⟩
 clear h hy hl hr
 by_cases h30 : d ≤ 30
 · obtain rfl : t = true := by rw [ht]; exact decide_eq_true h30
   have h30i : (d : Int) ≤ 30 := by omega
   clear ht
   go_enter Tryz.func60, Tryz.ntmps60
   go_wp2_with (go_at_call 44; refine (check_any _ true 2).mono ?_; rintro e w2 ⟨rfl, rfl⟩)
   refine bodyPost_end (results_none rfl _ _ _) rfl ?_
   exact ⟨rfl, rfl⟩
 · obtain rfl : t = false := by rw [ht]; exact decide_eq_false h30
   have h30i : ¬ (d : Int) ≤ 30 := by omega
   have h30d : decide ((d : Int) ≤ 30) = false := decide_eq_false h30i
   clear ht
   go_enter Tryz.func60, Tryz.ntmps60
   go_wp2_with (go_at_call 44; refine (check_any _ false 2).mono ?_; rintro e w2 ⟨rfl, rfl⟩)
   first | exact ⟨rfl, rfl, rfl⟩ | exact ⟨rfl, rfl⟩
set_option maxHeartbeats 1000000 in
set_option maxRecDepth 100000 in
theorem new_any (s : ByteArray) (w : World) (hs : s.size ≤ 1000000) (hK : KT w) :
   Calls Tryz.prog 28 #[.string s] w fun e w' => e = .returned (.pointer (some ⟨w.heap.size, 0, none⟩)) ∧ Kept (PM w' w.heap.size 1 (toks (toL s))) ∧ Kept (Below w.heap.size w w') := by
 have HK := Kept.mk hK
 have HS := Kept.mk hs
 clear hK hs
 go_enter Tryz.func28, Tryz.ntmps28
 go_wp2_with fail
 go_at_call 37
 have hB0 : Below w.heap.size w (w.alloc (.cells #[.string ⟨#[]⟩, .string s, .int .i64 1] 71)) := (Below.refl _ _).alloc (Nat.le_refl _) _
 refine (skip_raw _ w.heap.size 1 ⟨#[]⟩ s (heap_alloc_new w _) ⟨_, Nat.le_refl _, HK.out.toB.below hB0⟩ HS.out (by omega)).mono ?_
 rintro e w2 ⟨rfl, hp, ho⟩
 go_wp2_with fail
 go_ret
 exact ⟨rfl, hp, ⟨⟨ho.out.os, ho.out.tape, ho.out.output, Nat.le_trans hB0.size ho.out.size, fun k hk => (ho.out.block k (Nat.lt_of_lt_of_le hk hB0.size) (Nat.ne_of_lt hk)).trans (hB0.block k hk)⟩⟩⟩
end Ar
end
section
open Go.RowKit Tx
namespace Ar
def nil : Value := .pointer none
def es : Value := .string ⟨#[]⟩
def ET (P : Nat → Prop) (w : World) : Ex → Value → Prop
 | .lit n, v => ∃ b, v = .pointer (some ⟨b, 0, none⟩) ∧ P b ∧ w.heap[b]? = some (.cells #[.int .i64 0, .int .i64 (n : Int), .string ⟨#[]⟩, .string ⟨#[]⟩, .pointer none, .pointer none, .pointer none] 74 (0, 0))
 | .var x, v => ∃ b, v = .pointer (some ⟨b, 0, none⟩) ∧ P b ∧ w.heap[b]? = some (.cells #[.int .i64 1, .int .i64 0, .string (bs x), .string ⟨#[]⟩, .pointer none, .pointer none, .pointer none] 74 (0, 0))
 | .asg x o e, v => ∃ b f, v = .pointer (some ⟨b, 0, none⟩) ∧ P b ∧ w.heap[b]? = some (.cells #[.int .i64 2, .int .i64 0, .string (bs x), .string (bs o), f, .pointer none, .pointer none] 74 (0, 0)) ∧ ET P w e f
 | .pre o e, v => ∃ b f, v = .pointer (some ⟨b, 0, none⟩) ∧ P b ∧ w.heap[b]? = some (.cells #[.int .i64 3, .int .i64 0, .string ⟨#[]⟩, .string (bs o), f, .pointer none, .pointer none] 74 (0, 0)) ∧ ET P w e f
 | .bin o x y, v => ∃ b f s, v = .pointer (some ⟨b, 0, none⟩) ∧ P b ∧ w.heap[b]? = some (.cells #[.int .i64 4, .int .i64 0, .string ⟨#[]⟩, .string (bs o), f, s, .pointer none] 74 (0, 0)) ∧ ET P w x f ∧ ET P w y s
 | .cho c x y, v => ∃ b f s t, v = .pointer (some ⟨b, 0, none⟩) ∧ P b ∧ w.heap[b]? = some (.cells #[.int .i64 5, .int .i64 0, .string ⟨#[]⟩, .string ⟨#[]⟩, f, s, t] 74 (0, 0)) ∧ ET P w c f ∧ ET P w x s ∧ ET P w y t
theorem ET.same {P Q : Nat → Prop} {w w' : World} (h : ∀ b, P b → b < w.heap.size → Q b ∧ w'.heap[b]? = w.heap[b]?) : ∀ {e : Ex} {v : Value}, ET P w e v → ET Q w' e v
 | .lit _, _, ⟨b, hv, hp, hr⟩ => have k := h b hp (Array.getElem?_eq_some_iff.1 hr).1; ⟨b, hv, k.1, k.2.trans hr⟩
 | .var _, _, ⟨b, hv, hp, hr⟩ => have k := h b hp (Array.getElem?_eq_some_iff.1 hr).1; ⟨b, hv, k.1, k.2.trans hr⟩
 | .asg _ _ _, _, ⟨b, f, hv, hp, hr, h1⟩ => have k := h b hp (Array.getElem?_eq_some_iff.1 hr).1; ⟨b, f, hv, k.1, k.2.trans hr, ET.same h h1⟩
 | .pre _ _, _, ⟨b, f, hv, hp, hr, h1⟩ => have k := h b hp (Array.getElem?_eq_some_iff.1 hr).1; ⟨b, f, hv, k.1, k.2.trans hr, ET.same h h1⟩
 | .bin _ _ _, _, ⟨b, f, s, hv, hp, hr, h1, h2⟩ => have k := h b hp (Array.getElem?_eq_some_iff.1 hr).1; ⟨b, f, s, hv, k.1, k.2.trans hr, ET.same h h1, ET.same h h2⟩
 | .cho _ _ _, _, ⟨b, f, s, t, hv, hp, hr, h1, h2, h3⟩ => have k := h b hp (Array.getElem?_eq_some_iff.1 hr).1; ⟨b, f, s, t, hv, k.1, k.2.trans hr, ET.same h h1, ET.same h h2, ET.same h h3⟩
theorem ET.ptr {P : Nat → Prop} {w : World} : ∀ {e : Ex} {v : Value}, ET P w e v → ∃ b, v = .pointer (some ⟨b, 0, none⟩) ∧ P b ∧ b < w.heap.size
 | .lit _, _, ⟨b, hv, hp, hr⟩ => ⟨b, hv, hp, (Array.getElem?_eq_some_iff.1 hr).1⟩
 | .var _, _, ⟨b, hv, hp, hr⟩ => ⟨b, hv, hp, (Array.getElem?_eq_some_iff.1 hr).1⟩
 | .asg _ _ _, _, ⟨b, _, hv, hp, hr, _⟩ => ⟨b, hv, hp, (Array.getElem?_eq_some_iff.1 hr).1⟩
 | .pre _ _, _, ⟨b, _, hv, hp, hr, _⟩ => ⟨b, hv, hp, (Array.getElem?_eq_some_iff.1 hr).1⟩
 | .bin _ _ _, _, ⟨b, _, _, hv, hp, hr, _⟩ => ⟨b, hv, hp, (Array.getElem?_eq_some_iff.1 hr).1⟩
 | .cho _ _ _, _, ⟨b, _, _, _, hv, hp, hr, _⟩ => ⟨b, hv, hp, (Array.getElem?_eq_some_iff.1 hr).1⟩
def Nw (n : Nat) (b : Nat) : Prop := n ≤ b
theorem ET.more {m n : Nat} {w : World} {e : Ex} {v : Value} (h : ET (Nw m) w e v) (hn : n ≤ m) : ET (Nw n) w e v := h.same fun _ hp _ => ⟨Nat.le_trans hn hp, rfl⟩
theorem ET.only {n g : Nat} {w w' : World} {e : Ex} {v : Value} (h : ET (Nw n) w e v) (ho : Only (· = g) w w') (hg : g < n) : ET (Nw n) w' e v := h.same fun b hp hl => ⟨hp, ho.block b hl (by have : n ≤ b := hp; omega)⟩
theorem ET.below {n : Nat} {w w' : World} {e : Ex} {v : Value} (h : ET (Nw n) w e v) (hb : Below w.heap.size w w') : ET (Nw n) w' e v := h.same fun b hp hl => ⟨hp, hb.block b hl⟩
def RE (w : World) (g d : Nat) (r : R) (e : Ending) (w' : World) : Prop :=
 match r with
 | .ok (x, us) => ∃ u, e = .returned u ∧ Kept (ET (Nw w.heap.size) w' x u) ∧ Kept (PM w' g d us) ∧ Kept (Only (· = g) w w')
 | .error c => e = .panicked (pan c) ∧ Kept (Only (· = g) w w')
def RdC (f : FuncId) (g d : Nat) (c : P) : Prop := ∀ W us, PM W g d us → Calls Tryz.prog f #[.pointer (some ⟨g, 0, none⟩)] W (RE W g d (c us))
theorem PM.level {w : World} {g d : Nat} {ts : List Tok} (h : PM w g d ts) (d' : Nat) (hd : d' ≤ 40) : PM (w.setCell ⟨g, 2, none⟩ (.int .i64 (d' : Int))) g d' ts := by
 obtain ⟨x, hx, hl, hr⟩ := h.row
 have ho : Only (· = g) w (w.setCell ⟨g, 2, none⟩ (.int .i64 (d' : Int))) := (Only.refl _ _).setCell _ _ (fun _ => rfl)
 exact h.to ho hl hx (by have := heap_setCell_same w g 2 _ _ (.int .i64 (d' : Int)) hr; simpa using this) hd
theorem PM.c2 {w : World} {g d : Nat} {ts : List Tok} (h : PM w g d ts) : w.cell? ⟨g, 2, none⟩ = some (.int .i64 (d : Int)) ∧ w.frozen? ⟨g, 2, none⟩ = false := by
 obtain ⟨x, hx, hl, hr⟩ := h.row
 exact ⟨cell_of_row w g 2 _ _ _ hr, frozen_of_row w g 2 _ _ hr⟩
theorem PM.c0 {w : World} {g d : Nat} {ts : List Tok} (h : PM w g d ts) : w.cell? ⟨g, 0, none⟩ = some (.string (bs (textT ts))) := by
 obtain ⟨x, hx, hl, hr⟩ := h.row
 rw [← hx, text_toks]
 exact cell_of_row w g 0 _ _ _ hr
theorem only_set {w w' : World} {g : Nat} (h : Only (· = g) w w') (j : Nat) (v : Value) : Only (· = g) w (w'.setCell ⟨g, j, none⟩ v) := h.setCell _ _ (fun _ => rfl)
set_option maxHeartbeats 4000000 in
set_option maxRecDepth 100000 in
theorem deeper_expression (w : World) (g d : Nat) (ts : List Tok) (h : PM w g d ts) (hd : d ≤ 30) (c : P) (HC : Kept (RdC 43 g (d + 1) c)) :
   Calls Tryz.prog 65 #[.pointer (some ⟨g, 0, none⟩), .func (.func 43) #[.pointer (some ⟨g, 0, none⟩)] #[]] w (RE w g d (c ts)) := by
 have hz1 : IntKind.i64.wrap ((d : Int) + 1) = (d : Int) + 1 := IntWalk.i64_in _ (by omega)
 have hz2 : IntKind.i64.wrap ((d : Int) + 1 - 1) = (d : Int) := by rw [IntWalk.i64_in _ (by omega)]; omega
 have hz3 : IntKind.i64.wrap (d : Int) = (d : Int) := IntWalk.i64_in _ (by omega)
 have c1 := h.c2.1
 have f1 := h.c2.2
 have HPl : Kept (PM (w.setCell ⟨g, 2, none⟩ (.int .i64 ((d : Int) + 1))) g (d + 1) ts) := ⟨h.level (d + 1) (by omega)⟩
 have HO1 : Kept (Only (· = g) w (w.setCell ⟨g, 2, none⟩ (.int .i64 ((d : Int) + 1)))) := ⟨only_set (Only.refl _ _) 2 _⟩
 have HS1 : Kept ((w.setCell ⟨g, 2, none⟩ (.int .i64 ((d : Int) + 1))).heap.size = w.heap.size) := ⟨by simp [World.setCell]⟩
 have HGl := Kept.mk h.lt
 have HD := Kept.mk hd
 clear h hd
 go_enter Tryz.func65, Tryz.ntmps65
 go_wp2_with fail
 generalize hW : w.setCell ⟨g, 2, none⟩ (.int .i64 ((d : Int) + 1)) = w1 at *
 clear hW c1 f1
 go_at_call 43
 refine (HC.out w1 ts HPl.out).mono ?_
 intro e w2 hE
 cases hcu : c ts with
 | error e2 =>
   rw [hcu] at hE
   obtain ⟨rfl, ho⟩ := hE
   first | exact ⟨rfl, rfl, ⟨only_two HO1.out ho.out⟩⟩ | exact ⟨rfl, ⟨only_two HO1.out ho.out⟩⟩
 | ok z =>
   obtain ⟨x, us⟩ := z
   rw [hcu] at hE
   obtain ⟨u, rfl, hu, hp, ho⟩ := hE
   have HRc := Kept.mk hcu
   clear hcu
   have c1 : _ = some (Value.int .i64 ((d : Int) + 1)) := hp.out.c2.1
   have f1 := hp.out.c2.2
   have HP3 : Kept (PM (w2.setCell ⟨g, 2, none⟩ (.int .i64 (d : Int))) g d us) := ⟨hp.out.level d (by have := HD.out; omega)⟩
   have HO3 : Kept (Only (· = g) w (w2.setCell ⟨g, 2, none⟩ (.int .i64 (d : Int)))) := ⟨only_set (only_two HO1.out ho.out) 2 _⟩
   have HU : Kept (ET (Nw w.heap.size) (w2.setCell ⟨g, 2, none⟩ (.int .i64 (d : Int))) x u) := ⟨by
     have := hu.out.only (g := g) (only_set (Only.refl _ _) 2 (.int .i64 (d : Int))) (by have := HS1.out; have := HGl.out; omega)
     rwa [HS1.out] at this⟩
   obtain ⟨b, hub, _, _⟩ := hu.out.ptr
   subst hub
   clear hu hp ho
   go_wp2_with fail
   go_ret
   try unfold RE
   rw [HRc.out]
   exact ⟨_, rfl, HU, HP3, HO3⟩
set_option maxHeartbeats 4000000 in
set_option maxRecDepth 100000 in
theorem deeper_conditional (w : World) (g d : Nat) (ts : List Tok) (h : PM w g d ts) (hd : d ≤ 30) (c : P) (HC : Kept (RdC 63 g (d + 1) c)) :
   Calls Tryz.prog 65 #[.pointer (some ⟨g, 0, none⟩), .func (.func 63) #[.pointer (some ⟨g, 0, none⟩)] #[]] w (RE w g d (c ts)) := by
 have hz1 : IntKind.i64.wrap ((d : Int) + 1) = (d : Int) + 1 := IntWalk.i64_in _ (by omega)
 have hz2 : IntKind.i64.wrap ((d : Int) + 1 - 1) = (d : Int) := by rw [IntWalk.i64_in _ (by omega)]; omega
 have hz3 : IntKind.i64.wrap (d : Int) = (d : Int) := IntWalk.i64_in _ (by omega)
 have c1 := h.c2.1
 have f1 := h.c2.2
 have HPl : Kept (PM (w.setCell ⟨g, 2, none⟩ (.int .i64 ((d : Int) + 1))) g (d + 1) ts) := ⟨h.level (d + 1) (by omega)⟩
 have HO1 : Kept (Only (· = g) w (w.setCell ⟨g, 2, none⟩ (.int .i64 ((d : Int) + 1)))) := ⟨only_set (Only.refl _ _) 2 _⟩
 have HS1 : Kept ((w.setCell ⟨g, 2, none⟩ (.int .i64 ((d : Int) + 1))).heap.size = w.heap.size) := ⟨by simp [World.setCell]⟩
 have HGl := Kept.mk h.lt
 have HD := Kept.mk hd
 clear h hd
 go_enter Tryz.func65, Tryz.ntmps65
 go_wp2_with fail
 generalize hW : w.setCell ⟨g, 2, none⟩ (.int .i64 ((d : Int) + 1)) = w1 at *
 clear hW c1 f1
 go_at_call 63
 refine (HC.out w1 ts HPl.out).mono ?_
 intro e w2 hE
 cases hcu : c ts with
 | error e2 =>
   rw [hcu] at hE
   obtain ⟨rfl, ho⟩ := hE
   first | exact ⟨rfl, rfl, ⟨only_two HO1.out ho.out⟩⟩ | exact ⟨rfl, ⟨only_two HO1.out ho.out⟩⟩
 | ok z =>
   obtain ⟨x, us⟩ := z
   rw [hcu] at hE
   obtain ⟨u, rfl, hu, hp, ho⟩ := hE
   have HRc := Kept.mk hcu
   clear hcu
   have c1 : _ = some (Value.int .i64 ((d : Int) + 1)) := hp.out.c2.1
   have f1 := hp.out.c2.2
   have HP3 : Kept (PM (w2.setCell ⟨g, 2, none⟩ (.int .i64 (d : Int))) g d us) := ⟨hp.out.level d (by have := HD.out; omega)⟩
   have HO3 : Kept (Only (· = g) w (w2.setCell ⟨g, 2, none⟩ (.int .i64 (d : Int)))) := ⟨only_set (only_two HO1.out ho.out) 2 _⟩
   have HU : Kept (ET (Nw w.heap.size) (w2.setCell ⟨g, 2, none⟩ (.int .i64 (d : Int))) x u) := ⟨by
     have := hu.out.only (g := g) (only_set (Only.refl _ _) 2 (.int .i64 (d : Int))) (by have := HS1.out; have := HGl.out; omega)
     rwa [HS1.out] at this⟩
   obtain ⟨b, hub, _, _⟩ := hu.out.ptr
   subst hub
   clear hu hp ho
   go_wp2_with fail
   go_ret
   try unfold RE
   rw [HRc.out]
   exact ⟨_, rfl, HU, HP3, HO3⟩
set_option maxHeartbeats 4000000 in
set_option maxRecDepth 100000 in
theorem deeper_operand (w : World) (g d : Nat) (ts : List Tok) (h : PM w g d ts) (hd : d ≤ 30) (c : P) (HC : Kept (RdC 106 g (d + 1) c)) :
   Calls Tryz.prog 65 #[.pointer (some ⟨g, 0, none⟩), .func (.func 106) #[.pointer (some ⟨g, 0, none⟩)] #[]] w (RE w g d (c ts)) := by
 have hz1 : IntKind.i64.wrap ((d : Int) + 1) = (d : Int) + 1 := IntWalk.i64_in _ (by omega)
 have hz2 : IntKind.i64.wrap ((d : Int) + 1 - 1) = (d : Int) := by rw [IntWalk.i64_in _ (by omega)]; omega
 have hz3 : IntKind.i64.wrap (d : Int) = (d : Int) := IntWalk.i64_in _ (by omega)
 have c1 := h.c2.1
 have f1 := h.c2.2
 have HPl : Kept (PM (w.setCell ⟨g, 2, none⟩ (.int .i64 ((d : Int) + 1))) g (d + 1) ts) := ⟨h.level (d + 1) (by omega)⟩
 have HO1 : Kept (Only (· = g) w (w.setCell ⟨g, 2, none⟩ (.int .i64 ((d : Int) + 1)))) := ⟨only_set (Only.refl _ _) 2 _⟩
 have HS1 : Kept ((w.setCell ⟨g, 2, none⟩ (.int .i64 ((d : Int) + 1))).heap.size = w.heap.size) := ⟨by simp [World.setCell]⟩
 have HGl := Kept.mk h.lt
 have HD := Kept.mk hd
 clear h hd
 go_enter Tryz.func65, Tryz.ntmps65
 go_wp2_with fail
 generalize hW : w.setCell ⟨g, 2, none⟩ (.int .i64 ((d : Int) + 1)) = w1 at *
 clear hW c1 f1
 go_at_call 106
 refine (HC.out w1 ts HPl.out).mono ?_
 intro e w2 hE
 cases hcu : c ts with
 | error e2 =>
   rw [hcu] at hE
   obtain ⟨rfl, ho⟩ := hE
   first | exact ⟨rfl, rfl, ⟨only_two HO1.out ho.out⟩⟩ | exact ⟨rfl, ⟨only_two HO1.out ho.out⟩⟩
 | ok z =>
   obtain ⟨x, us⟩ := z
   rw [hcu] at hE
   obtain ⟨u, rfl, hu, hp, ho⟩ := hE
   have HRc := Kept.mk hcu
   clear hcu
   have c1 : _ = some (Value.int .i64 ((d : Int) + 1)) := hp.out.c2.1
   have f1 := hp.out.c2.2
   have HP3 : Kept (PM (w2.setCell ⟨g, 2, none⟩ (.int .i64 (d : Int))) g d us) := ⟨hp.out.level d (by have := HD.out; omega)⟩
   have HO3 : Kept (Only (· = g) w (w2.setCell ⟨g, 2, none⟩ (.int .i64 (d : Int)))) := ⟨only_set (only_two HO1.out ho.out) 2 _⟩
   have HU : Kept (ET (Nw w.heap.size) (w2.setCell ⟨g, 2, none⟩ (.int .i64 (d : Int))) x u) := ⟨by
     have := hu.out.only (g := g) (only_set (Only.refl _ _) 2 (.int .i64 (d : Int))) (by have := HS1.out; have := HGl.out; omega)
     rwa [HS1.out] at this⟩
   obtain ⟨b, hub, _, _⟩ := hu.out.ptr
   subst hub
   clear hu hp ho
   go_wp2_with fail
   go_ret
   try unfold RE
   rw [HRc.out]
   exact ⟨_, rfl, HU, HP3, HO3⟩
end Ar
end
end Go.Proofs.YtlggpefmojacoaaGreatDoor
