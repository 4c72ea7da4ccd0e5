/-
  Parts of the proof, merged.
-/
import Derived.Lib.ItoaNum
import Derived.Lib.LaidTab
import Derived.Test.YtlggpefmojacoaaGreatDoorLa07
import Derived.Test.YtlggpefmojacoaaGreatDoorLa09
import Derived.Test.YtlggpefmojacoaaGreatDoorLa10
import Derived.Test.YtlggpefmojacoaaGreatDoorLa11
import Derived.Test.YtlggpefmojacoaaGreatDoorLa19
namespace Go.Proofs.YtlggpefmojacoaaGreatDoor
section
open Go.RowKit Tx
namespace Ar
structure KT (w : World) : Prop where
 kit : Wx.Kit w
 tab : Lib.TabIs Tryz.prog w "internal/strconv.uint64pow10" .u64 Lib.pow10Tab
 es : ∃ t p, w.cell? ⟨4, 0, none⟩ = some (.iface t p)
 er : ∃ t p, w.cell? ⟨5, 0, none⟩ = some (.iface t p)
theorem var_below {P : Program} {w w' : World} {n : String} {cs : Array Value} (hb : Below w.heap.size w w') (h : w.var? P n = some cs) : w'.var? P n = some cs := by
 unfold World.var? at h ⊢
 cases hg : P.globalNamed n with
 | none => rw [hg] at h; cases h
 | some g =>
   rw [hg] at h
   simp only [Option.bind_some] at h ⊢
   have hlt : g < w.heap.size := by
     rcases Nat.lt_or_ge g w.heap.size with h1 | h1
     · exact h1
     · rw [Array.getElem?_eq_none h1] at h; cases h
   rw [hb.block g hlt]
   exact h
theorem KT.below {w w' : World} (h : KT w) (hb : Below w.heap.size w w') : KT w' := by
 obtain ⟨h1, h2, ⟨t1, p1, h3⟩, t2, p2, h4⟩ := h
 exact ⟨h1.below hb, var_below hb h2, ⟨t1, p1, (hb.cell (World.block_lt_of_cell? w _ h3)).trans h3⟩, t2, p2, (hb.cell (World.block_lt_of_cell? w _ h4)).trans h4⟩
structure KB (B : Nat) (w : World) : Prop where
 le : B ≤ w.heap.size
 all : ∀ w', Below B w w' → KT w'
theorem KT.toB {w : World} (h : KT w) : KB w.heap.size w := ⟨Nat.le_refl _, fun _ hb => h.below hb⟩
theorem KB.kt {B : Nat} {w : World} (h : KB B w) : KT w := h.all w (Below.refl _ _)
theorem KB.below {B : Nat} {w w' : World} (h : KB B w) (hb : Below B w w') : KB B w' := ⟨Nat.le_trans h.le hb.size, fun _ h2 => h.all _ (hb.trans h2)⟩
theorem KB.only {B g : Nat} {w w' : World} (h : KB B w) (ho : Only (· = g) w w') (hg : B ≤ g) : KB B w' := h.below ⟨ho.os, ho.tape, ho.output, ho.size, fun k hk => ho.block k (Nat.lt_of_lt_of_le hk h.le) (fun e => by omega)⟩
def NumP (o : Option Nat) (e : Ending) : Prop := match o with
 | some n => e = .returned (.tuple #[.int .u64 (n : Int), .nilIface])
 | none => ∃ (m : Int) (t : TypeId) (p : Value), e = .returned (.tuple #[.int .u64 m, .iface t p])
set_option maxHeartbeats 2000000 in
set_option maxRecDepth 100000 in
theorem pu_any (b : Int) (t : ByteArray) (o : Option Nat) (hlim : t.size ≤ 281474976710656) (w : World) (hK : KT w) (H : Calls Tryz.prog 116 #[.string t, .int .i64 b, .int .i64 63] w fun e w' => NumE o e ∧ Below w.heap.size w w') :
   Calls Tryz.prog 101 #[.string t, .int .i64 b, .int .i64 63] w fun e w' => NumP o e ∧ Below w.heap.size w w' := by
 have HK := Kept.mk hK
 have HL := Kept.mk hlim
 clear hK hlim
 cases o with
 | some n =>
   go_enter Tryz.func101, Tryz.ntmps101
   go_wp2_with (go_at_call 116; refine H.mono ?_; rintro e w1 ⟨he, hb⟩; have HB := Kept.mk hb; obtain rfl := he; clear hb)
   go_ret2
   exact ⟨rfl, HB.out⟩
 | none =>
   go_enter Tryz.func101, Tryz.ntmps101
   go_wp2_with fail
   go_at_call 116
   refine H.mono ?_
   rintro e w1 ⟨⟨m, k, rfl, hk⟩, hb⟩
   have HB := Kept.mk hb
   have HK1 := Kept.mk (HK.out.below hb)
   clear hb HK H
   obtain ⟨⟨t1, p1, hc1⟩, t2, p2, hc2⟩ := HK1.out.es, HK1.out.er
   rcases hk with rfl | rfl
   · go_wp2_with (go_at_call 117; refine (Tryz.strconv_toError_range _ t b 63 _ w1 HL.out hc2 (.inr ⟨t2, p2, rfl⟩)).mono ?_; rintro e w2 ⟨N, rfl, hN, hr, hb⟩; have HB2 := Kept.mk (HB.out.trans (hb.mono HB.out.size)); clear hN hr hb)
     go_ret2
     exact ⟨⟨_, _, _, rfl⟩, HB2.out⟩
   · go_wp2_with (go_at_call 117; refine (Tryz.strconv_toError_syntax _ t b 63 _ w1 HL.out hc1 (.inr ⟨t1, p1, rfl⟩)).mono ?_; rintro e w2 ⟨N, rfl, hN, hr, hb⟩; have HB2 := Kept.mk (HB.out.trans (hb.mono HB.out.size)); clear hN hr hb)
     go_ret2
     exact ⟨⟨_, _, _, rfl⟩, HB2.out⟩
theorem inner_empty (b : Nat) (t : ByteArray) (h : t.size = 0) (w : World) : Calls Tryz.prog 116 #[.string t, .int .i64 (b : Int), .int .i64 63] w fun e w' => NumE (num b (toL t)) e ∧ Below w.heap.size w w' := by
 have e : toL t = [] := List.eq_nil_of_length_eq_zero (by rw [toL_length]; exact h)
 have hx : t = ⟨#[]⟩ := toL_inj (e.trans rfl)
 subst hx
 refine (Tryz.internal_strconv_ParseUint_empty (b : Int) 63 w).mono ?_
 rintro e w' ⟨rfl, rfl⟩
 exact ⟨NumE.err rfl _ _ (.inr rfl), Below.refl _ _⟩
theorem inner_any (b : Nat) (hb : b = 10 ∨ b = 8 ∨ b = 16) (t : ByteArray) (hlim : t.size ≤ 281474976710656) (w : World) : Calls Tryz.prog 116 #[.string t, .int .i64 (b : Int), .int .i64 63] w fun e w' => NumE (num b (toL t)) e ∧ Below w.heap.size w w' := by
 by_cases h : t.size = 0
 · exact inner_empty b t h w
 · rcases hb with rfl | rfl | rfl
   · exact parse10_any t h (by omega) w
   · exact parse8_any t h (by omega) w
   · exact parse16_any t h (by omega) w
theorem parse_any (b : Nat) (hb : b = 10 ∨ b = 8 ∨ b = 16) (t : ByteArray) (hlim : t.size ≤ 281474976710656) (w : World) (hK : KT w) :
   Calls Tryz.prog 101 #[.string t, .int .i64 (b : Int), .int .i64 63] w fun e w' => NumP (num b (toL t)) e ∧ Below w.heap.size w w' := pu_any b t _ hlim w hK (inner_any b hb t hlim w)
theorem litV_cases (s : List UInt8) : litV s = if (Lib.hasPrefix s [48, 120] || Lib.hasPrefix s [48, 88]) = true then num 16 (s.drop 2) else if (Lib.hasPrefix s [48] && s != [48]) = true then num 8 (s.drop 1) else num 10 s := by
 match s with
 | [] => rfl
 | [c] =>
   by_cases h : c = 48
   · subst h; rfl
   · have h2 : ([c] : List UInt8) ≠ [48] := fun e => h (by cases e; rfl)
     have h3 : ¬ 48 = c := fun e => h e.symm
     simp [litV, Lib.hasPrefix, h3]
 | c :: d :: r =>
   by_cases h : c = 48
   · subst h
     by_cases h1 : d = 120
     · subst h1; simp [litV, Lib.hasPrefix]
     · by_cases h2 : d = 88
       · subst h2; simp [litV, Lib.hasPrefix]
       · simp [litV, Lib.hasPrefix, h1, h2, Ne.symm h1, Ne.symm h2]
   · have h3 : ¬ 48 = c := fun e => h e.symm
     simp [litV, Lib.hasPrefix, h3]
     split
     · rename_i heq; cases heq; exact absurd rfl h
     · rfl
theorem numF_le {b : Nat} : ∀ (s : List UInt8) (a n : Nat), a ≤ 9223372036854775807 → numF b s a = some n → n ≤ 9223372036854775807
 | [], a, n, h, e => by cases e; exact h
 | c :: r, a, n, h, e => by
   rw [numF] at e
   split at e
   · rename_i h2; exact numF_le r _ n h2.2 e
   · cases e
theorem num_le {b n : Nat} {s : List UInt8} (e : num b s = some n) : n ≤ 9223372036854775807 := by
 unfold num at e
 split at e
 · cases e
 · exact numF_le _ _ _ (by omega) e
theorem litV_le {s : List UInt8} {n : Nat} (e : litV s = some n) : n ≤ 9223372036854775807 := by
 rw [litV_cases] at e
 split at e
 · exact num_le e
 · split at e <;> exact num_le e
def LitE (o : Option Nat) (e : Ending) : Prop := match o with
 | some n => e = .returned (.tuple #[.int .i64 (n : Int), .bool true])
 | none => e = .returned (.tuple #[.int .i64 0, .bool false])
theorem hasP (x : ByteArray) (p : List UInt8) (q : Bool) (h : Lib.hasPrefix (toL x) p = q) (w : World) : Calls Tryz.prog 100 #[.string x, .string (bs p)] w fun e w' => e = .returned (.bool q) ∧ w = w' := by
 refine (Tryz.strings_HasPrefix x (bs p) w).mono ?_
 rintro e w' ⟨rfl, rfl⟩
 exact ⟨by rw [← h]; rfl, rfl⟩
theorem prefix_le {x : ByteArray} {p : List UInt8} (h : Lib.hasPrefix (toL x) p = true) : p.length ≤ x.size := by
 have := (List.isPrefixOf_iff_prefix.1 h).length_le
 rw [toL_length] at this
 exact this
theorem ext_size (x : ByteArray) (k : Nat) : (x.extract k x.size).size ≤ x.size := by
 rw [← toL_length, ext_from, List.length_drop, toL_length]; omega
set_option maxHeartbeats 4000000 in
set_option maxRecDepth 100000 in
theorem lit_any (x : ByteArray) (hlim : x.size ≤ 281474976710656) (w : World) (hK : KT w) : Calls Tryz.prog 76 #[.string x] w fun e w' => LitE (litV (toL x)) e ∧ Below w.heap.size w w' := by
 have HK := Kept.mk hK
 have HL := Kept.mk hlim
 have HC := Kept.mk (litV_cases (toL x))
 have hq : (x.toList == [48]) = (toL x == [48]) := by rw [tl]
 obtain ⟨o, ho⟩ : ∃ o, o = litV (toL x) := ⟨_, rfl⟩
 have HO := Kept.mk ho
 have HLe : Kept (∀ n, o = some n → n ≤ 9223372036854775807) := ⟨fun n e => litV_le (ho ▸ e)⟩
 rw [← ho]
 clear hK hlim ho
 have key : ∀ (b : Nat) (y : ByteArray), Kept (b = 10 ∨ b = 8 ∨ b = 16) → Kept (y.size ≤ x.size) → Kept (o = num b (toL y)) → ∀ W, Kept (KT W) → Calls Tryz.prog 101 #[.string y, .int .i64 (b : Int), .int .i64 63] W fun e w' => NumP o e ∧ Below W.heap.size W w' := fun b y h1 h2 h3 W h4 => by
   rw [h3.out]
   exact parse_any b h1.out y (Nat.le_trans h2.out HL.out) W h4.out
 have KEY := Kept.mk key
 clear key
 cases h1 : Lib.hasPrefix (toL x) [48, 120] with
 | true =>
   have H1 := Kept.mk h1
   have hfI : (2 : Int) ≤ (x.size : Int) := Int.ofNat_le.2 (prefix_le h1)
   clear h1 hq
   have HN : Kept (o = num 16 (toL (x.extract 2 x.size))) := ⟨by rw [HO.out, HC.out, H1.out, ext_from]; rfl⟩
   have HB0 : Kept (16 = 10 ∨ 16 = 8 ∨ 16 = 16) := ⟨by decide⟩
   have HS : Kept ((x.extract 2 x.size).size ≤ x.size) := ⟨ext_size x 2⟩
   have T1 : Kept True := ⟨trivial⟩
   have T2 : Kept True := ⟨trivial⟩
   have T3 : Kept True := ⟨trivial⟩
   have KP := Kept.mk (KEY.out 16 _ HB0 HS HN)
   clear KEY HC HO HN
   cases o with
   | some n =>
     have hwr : IntKind.i64.wrap (n : Int) = (n : Int) := IntWalk.i64_in _ (by have := HLe.out n rfl; omega)
     go_enter Tryz.func76, Tryz.ntmps76
     go_wp2_with (first
       | (have := T1; go_at_call 100; refine (hasP x [48, 120] _ H1.out _).mono ?_; rintro e w1 ⟨rfl, rfl⟩; clear T1)
       | (go_at_call 101; refine (KP.out _ HK).mono ?_; rintro e w2 ⟨he, hb⟩; have HB := Kept.mk hb; obtain rfl := he; clear hb))
     go_ret2
     exact ⟨rfl, HB.out⟩
   | none =>
     go_enter Tryz.func76, Tryz.ntmps76
     go_wp2_with (first
       | (have := T1; go_at_call 100; refine (hasP x [48, 120] _ H1.out _).mono ?_; rintro e w1 ⟨rfl, rfl⟩; clear T1)
       | (go_at_call 101; refine (KP.out _ HK).mono ?_; rintro e w2 ⟨⟨m, t, p, he⟩, hb⟩; have HB := Kept.mk hb; obtain rfl := he; clear hb))
     go_ret2
     exact ⟨rfl, HB.out⟩
 | false =>
   have H1 := Kept.mk h1
   clear h1
   cases h2 : Lib.hasPrefix (toL x) [48, 88] with
   | true =>
     have H2 := Kept.mk h2
     have hfI : (2 : Int) ≤ (x.size : Int) := Int.ofNat_le.2 (prefix_le h2)
     clear h2 hq
     have HN : Kept (o = num 16 (toL (x.extract 2 x.size))) := ⟨by rw [HO.out, HC.out, H1.out, H2.out, ext_from]; rfl⟩
     have HB0 : Kept (16 = 10 ∨ 16 = 8 ∨ 16 = 16) := ⟨by decide⟩
     have HS : Kept ((x.extract 2 x.size).size ≤ x.size) := ⟨ext_size x 2⟩
     have T1 : Kept True := ⟨trivial⟩
     have T2 : Kept True := ⟨trivial⟩
     have T3 : Kept True := ⟨trivial⟩
     have KP := Kept.mk (KEY.out 16 _ HB0 HS HN)
     clear KEY HC HO HN
     cases o with
     | some n =>
       have hwr : IntKind.i64.wrap (n : Int) = (n : Int) := IntWalk.i64_in _ (by have := HLe.out n rfl; omega)
       go_enter Tryz.func76, Tryz.ntmps76
       go_wp2_with (first
         | (have := T1; go_at_call 100; refine (hasP x [48, 120] _ H1.out _).mono ?_; rintro e w1 ⟨rfl, rfl⟩; clear T1)
         | (have := T2; go_at_call 100; refine (hasP x [48, 88] _ H2.out _).mono ?_; rintro e w1 ⟨rfl, rfl⟩; clear T2)
         | (go_at_call 101; refine (KP.out _ HK).mono ?_; rintro e w2 ⟨he, hb⟩; have HB := Kept.mk hb; obtain rfl := he; clear hb))
       go_ret2
       exact ⟨rfl, HB.out⟩
     | none =>
       go_enter Tryz.func76, Tryz.ntmps76
       go_wp2_with (first
         | (have := T1; go_at_call 100; refine (hasP x [48, 120] _ H1.out _).mono ?_; rintro e w1 ⟨rfl, rfl⟩; clear T1)
         | (have := T2; go_at_call 100; refine (hasP x [48, 88] _ H2.out _).mono ?_; rintro e w1 ⟨rfl, rfl⟩; clear T2)
         | (go_at_call 101; refine (KP.out _ HK).mono ?_; rintro e w2 ⟨⟨m, t, p, he⟩, hb⟩; have HB := Kept.mk hb; obtain rfl := he; clear hb))
       go_ret2
       exact ⟨rfl, HB.out⟩
   | false =>
     have H2 := Kept.mk h2
     clear h2
     cases h3 : Lib.hasPrefix (toL x) [48] with
     | true =>
       have H3 := Kept.mk h3
       cases h4 : toL x == [48] with
       | true =>
         rw [h4] at hq
         have H4 := Kept.mk h4
         clear h3 h4
         have HN : Kept (o = num 10 (toL (x))) := ⟨by rw [HO.out, HC.out, H1.out, H2.out, H3.out, show (toL x != [48]) = false by rw [bne, H4.out]; rfl]; rfl⟩
         have HB0 : Kept (10 = 10 ∨ 10 = 8 ∨ 10 = 16) := ⟨by decide⟩
         have HS : Kept ((x).size ≤ x.size) := ⟨Nat.le_refl _⟩
         have T1 : Kept True := ⟨trivial⟩
         have T2 : Kept True := ⟨trivial⟩
         have T3 : Kept True := ⟨trivial⟩
         have KP := Kept.mk (KEY.out 10 _ HB0 HS HN)
         clear KEY HC HO HN
         cases o with
         | some n =>
           have hwr : IntKind.i64.wrap (n : Int) = (n : Int) := IntWalk.i64_in _ (by have := HLe.out n rfl; omega)
           go_enter Tryz.func76, Tryz.ntmps76
           go_wp2_with (first
             | (have := T1; go_at_call 100; refine (hasP x [48, 120] _ H1.out _).mono ?_; rintro e w1 ⟨rfl, rfl⟩; clear T1)
             | (have := T2; go_at_call 100; refine (hasP x [48, 88] _ H2.out _).mono ?_; rintro e w1 ⟨rfl, rfl⟩; clear T2)
             | (have := T3; go_at_call 100; refine (hasP x [48] _ H3.out _).mono ?_; rintro e w1 ⟨rfl, rfl⟩; clear T3)
             | (go_at_call 101; refine (KP.out _ HK).mono ?_; rintro e w2 ⟨he, hb⟩; have HB := Kept.mk hb; obtain rfl := he; clear hb))
           go_ret2
           exact ⟨rfl, HB.out⟩
         | none =>
           go_enter Tryz.func76, Tryz.ntmps76
           go_wp2_with (first
             | (have := T1; go_at_call 100; refine (hasP x [48, 120] _ H1.out _).mono ?_; rintro e w1 ⟨rfl, rfl⟩; clear T1)
             | (have := T2; go_at_call 100; refine (hasP x [48, 88] _ H2.out _).mono ?_; rintro e w1 ⟨rfl, rfl⟩; clear T2)
             | (have := T3; go_at_call 100; refine (hasP x [48] _ H3.out _).mono ?_; rintro e w1 ⟨rfl, rfl⟩; clear T3)
             | (go_at_call 101; refine (KP.out _ HK).mono ?_; rintro e w2 ⟨⟨m, t, p, he⟩, hb⟩; have HB := Kept.mk hb; obtain rfl := he; clear hb))
           go_ret2
           exact ⟨rfl, HB.out⟩
       | false =>
         rw [h4] at hq
         have H4 := Kept.mk h4
         have hfI : (1 : Int) ≤ (x.size : Int) := Int.ofNat_le.2 (prefix_le h3)
         clear h3 h4
         have HN : Kept (o = num 8 (toL (x.extract 1 x.size))) := ⟨by rw [HO.out, HC.out, H1.out, H2.out, H3.out, show (toL x != [48]) = true by rw [bne, H4.out]; rfl, ext_from]; rfl⟩
         have HB0 : Kept (8 = 10 ∨ 8 = 8 ∨ 8 = 16) := ⟨by decide⟩
         have HS : Kept ((x.extract 1 x.size).size ≤ x.size) := ⟨ext_size x 1⟩
         have T1 : Kept True := ⟨trivial⟩
         have T2 : Kept True := ⟨trivial⟩
         have T3 : Kept True := ⟨trivial⟩
         have KP := Kept.mk (KEY.out 8 _ HB0 HS HN)
         clear KEY HC HO HN
         cases o with
         | some n =>
           have hwr : IntKind.i64.wrap (n : Int) = (n : Int) := IntWalk.i64_in _ (by have := HLe.out n rfl; omega)
           go_enter Tryz.func76, Tryz.ntmps76
           go_wp2_with (first
             | (have := T1; go_at_call 100; refine (hasP x [48, 120] _ H1.out _).mono ?_; rintro e w1 ⟨rfl, rfl⟩; clear T1)
             | (have := T2; go_at_call 100; refine (hasP x [48, 88] _ H2.out _).mono ?_; rintro e w1 ⟨rfl, rfl⟩; clear T2)
             | (have := T3; go_at_call 100; refine (hasP x [48] _ H3.out _).mono ?_; rintro e w1 ⟨rfl, rfl⟩; clear T3)
             | (go_at_call 101; refine (KP.out _ HK).mono ?_; rintro e w2 ⟨he, hb⟩; have HB := Kept.mk hb; obtain rfl := he; clear hb))
           go_ret2
           exact ⟨rfl, HB.out⟩
         | none =>
           go_enter Tryz.func76, Tryz.ntmps76
           go_wp2_with (first
             | (have := T1; go_at_call 100; refine (hasP x [48, 120] _ H1.out _).mono ?_; rintro e w1 ⟨rfl, rfl⟩; clear T1)
             | (have := T2; go_at_call 100; refine (hasP x [48, 88] _ H2.out _).mono ?_; rintro e w1 ⟨rfl, rfl⟩; clear T2)
             | (have := T3; go_at_call 100; refine (hasP x [48] _ H3.out _).mono ?_; rintro e w1 ⟨rfl, rfl⟩; clear T3)
             | (go_at_call 101; refine (KP.out _ HK).mono ?_; rintro e w2 ⟨⟨m, t, p, he⟩, hb⟩; have HB := Kept.mk hb; obtain rfl := he; clear hb))
           go_ret2
           exact ⟨rfl, HB.out⟩
     | false =>
       have H3 := Kept.mk h3
       clear h3 hq
       have HN : Kept (o = num 10 (toL (x))) := ⟨by rw [HO.out, HC.out, H1.out, H2.out, H3.out]; rfl⟩
       have HB0 : Kept (10 = 10 ∨ 10 = 8 ∨ 10 = 16) := ⟨by decide⟩
       have HS : Kept ((x).size ≤ x.size) := ⟨Nat.le_refl _⟩
       have T1 : Kept True := ⟨trivial⟩
       have T2 : Kept True := ⟨trivial⟩
       have T3 : Kept True := ⟨trivial⟩
       have KP := Kept.mk (KEY.out 10 _ HB0 HS HN)
       clear KEY HC HO HN
       cases o with
       | some n =>
         have hwr : IntKind.i64.wrap (n : Int) = (n : Int) := IntWalk.i64_in _ (by have := HLe.out n rfl; omega)
         go_enter Tryz.func76, Tryz.ntmps76
         go_wp2_with (first
           | (have := T1; go_at_call 100; refine (hasP x [48, 120] _ H1.out _).mono ?_; rintro e w1 ⟨rfl, rfl⟩; clear T1)
           | (have := T2; go_at_call 100; refine (hasP x [48, 88] _ H2.out _).mono ?_; rintro e w1 ⟨rfl, rfl⟩; clear T2)
           | (have := T3; go_at_call 100; refine (hasP x [48] _ H3.out _).mono ?_; rintro e w1 ⟨rfl, rfl⟩; clear T3)
           | (go_at_call 101; refine (KP.out _ HK).mono ?_; rintro e w2 ⟨he, hb⟩; have HB := Kept.mk hb; obtain rfl := he; clear hb))
         go_ret2
         exact ⟨rfl, HB.out⟩
       | none =>
         go_enter Tryz.func76, Tryz.ntmps76
         go_wp2_with (first
           | (have := T1; go_at_call 100; refine (hasP x [48, 120] _ H1.out _).mono ?_; rintro e w1 ⟨rfl, rfl⟩; clear T1)
           | (have := T2; go_at_call 100; refine (hasP x [48, 88] _ H2.out _).mono ?_; rintro e w1 ⟨rfl, rfl⟩; clear T2)
           | (have := T3; go_at_call 100; refine (hasP x [48] _ H3.out _).mono ?_; rintro e w1 ⟨rfl, rfl⟩; clear T3)
           | (go_at_call 101; refine (KP.out _ HK).mono ?_; rintro e w2 ⟨⟨m, t, p, he⟩, hb⟩; have HB := Kept.mk hb; obtain rfl := he; clear hb))
         go_ret2
         exact ⟨rfl, HB.out⟩
end Ar
end
end Go.Proofs.YtlggpefmojacoaaGreatDoor
