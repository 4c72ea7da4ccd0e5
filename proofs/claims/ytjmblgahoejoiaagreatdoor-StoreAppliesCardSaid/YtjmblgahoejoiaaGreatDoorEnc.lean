/-
  Encode: the text of a list.
-/
import Derived.Test.YtjmblgahoejoiaaGreatDoorTup
import Derived.Test.YtjmblgahoejoiaaGreatDoorRow
namespace Go.Proofs.YtjmblgahoejoiaaGreatDoor
open Go.RowKit Net
namespace Tup

theorem byteTy : By.Ty Tryz.prog 108 5 := ⟨Tryz.underlying108, Tryz.underlying5, by kernel_rfl⟩

/-- How long a text's netstring is at most. -/
theorem one_le (s : ByteArray) (h : s.size < 1000000000000) : (Net.one (toL s)).length ≤ s.size + 14 := by
  have := dig_length (toL s).length 11 (by rw [toL_length]; omega)
  simp only [Net.one, List.length_append, List.length_cons, List.length_nil, toL_length] at this ⊢
  omega

/-- AppendInt onto a row of bytes. -/
theorem appendInt_any (B n : Nat) (v : Value) (l : List UInt8) (w : World) (hn : n ≤ 9223372036854775807) (hv : Row.Is 5 w B v l) (hB : B ≤ w.heap.size) (hK : KitB B w) (hl : l.length + 21 ≤ 140737488355328) :
    Calls Tryz.prog 68 #[v, .int .i64 n, .int .i64 10] w fun e w' => ∃ v', e = .returned v' ∧ Row.Is 5 w' B v' (l ++ dig n) ∧ Below B w w' := by
  refine (Tryz.strconv_AppendInt_10 B l.length n (by omega) (by omega) v (By.cells l) w hv hB hl hK.tab).mono ?_
  rintro e w' ⟨v', rfl, ho, hb, _⟩
  refine ⟨v', rfl, ?_, hb⟩
  rw [itoa_dig] at ho
  exact Row.Is.grow (m := dig n) ho rfl

set_option maxRecDepth 100000 in
/-- The step: a text's netstring behind what was gathered. -/
theorem step_any (B : Nat) (v : Value) (l : List UInt8) (s : ByteArray) (w : World) (hv : Row.Is 5 w B v l) (hB : B ≤ w.heap.size) (hK : KitB B w) (hs : s.size ≤ 1000000) (hl : l.length ≤ 1000000000000) :
    Calls Tryz.prog 67 #[v, .string s] w fun e w' => ∃ v', e = .returned v' ∧ Kept (Row.Is 5 w' B v' (l ++ Net.one (toL s))) ∧ Below B w w' := by
  have HV := Kept.mk hv
  have HB := Kept.mk hB
  have HK := Kept.mk hK
  have HL := Kept.mk hl
  have HD : Kept ((dig s.size).length ≤ 12) := ⟨dig_length s.size 11 (by omega)⟩
  clear hv hB hK hl
  go_enter Tryz.func67, Tryz.ntmps67
  go_wp2_with (first
    | (go_at_call 68
       refine (appendInt_any B s.size v l w (by omega) HV.out HB.out HK.out (by have := HL.out; omega)).mono ?_
       rintro e w1 ⟨v1, rfl, hv1, hb1⟩
       have HB1 := Kept.mk hb1
       have HV1 := Kept.mk hv1
       have hw1 : Kept (B ≤ w1.heap.size) := ⟨Nat.le_trans HB.out HB1.out.size⟩
       have hl1 : Kept ((l ++ dig s.size).length ≤ 1000000000012) := ⟨by have := HL.out; have := HD.out; rw [List.length_append]; omega⟩
       clear hb1 hv1)
    | (refine Row.wpList_append1 byteTy rfl _ _ rfl rfl HV1.out hw1.out 58 _ rfl rfl (by have := hl1.out; omega) ?_
       intro v2 w2 hE2 hg2
       have HB2 : Kept (Below B w w2) := ⟨HB1.out.grown hg2 hw1.out (fun k hk => (HV1.out.lt k hk).1)⟩
       have HV2 := Kept.mk hE2
       have hl2 : Kept ((l ++ dig s.size ++ [58]).length ≤ 1000000000013) := ⟨by have := hl1.out; rw [List.length_append, List.length_singleton]; omega⟩
       have hw2 : Kept (B ≤ w2.heap.size) := ⟨Nat.le_trans HB.out HB2.out.size⟩
       clear hE2 hg2 HV1)
    | (refine Row.wpList_append_str byteTy rfl _ _ 9 rfl Tryz.underlying9 rfl HV2.out hw2.out s rfl (by have := hl2.out; omega) ?_
       intro v3 w3 hE3 hg3
       have HB3 : Kept (Below B w w3) := ⟨HB2.out.grown hg3 hw2.out (fun k hk => (HV2.out.lt k hk).1)⟩
       have HV3 := Kept.mk hE3
       have hl3 : Kept ((l ++ dig s.size ++ [58] ++ s.data.toList).length ≤ 1000001000013) := ⟨by have := hl2.out; have e := toL_length s; unfold toL at e; rw [List.length_append, e]; omega⟩
       have hw3 : Kept (B ≤ w3.heap.size) := ⟨Nat.le_trans HB.out HB3.out.size⟩
       clear hE3 hg3 HV2)
    | (refine Row.wpList_append1 byteTy rfl _ _ rfl rfl HV3.out hw3.out 44 _ rfl rfl (by have := hl3.out; omega) ?_
       intro v4 w4 hE4 hg4
       have HB4 : Kept (Below B w w4) := ⟨HB3.out.grown hg4 hw3.out (fun k hk => (HV3.out.lt k hk).1)⟩
       have HV4 : Kept (Row.Is 5 w4 B v4 (l ++ Net.one (toL s))) := ⟨by
         have e : l ++ Net.one (toL s) = l ++ dig s.size ++ [58] ++ s.data.toList ++ [44] := by
           unfold Net.one
           rw [toL_length]
           simp [toL]
         rw [e]
         exact hE4⟩
       clear hE4 hg4 HV3))
  go_ret
  exact ⟨_, rfl, HV4, HB4.out⟩

/-- What was gathered of a list. -/
structure FoldIn (B : Nat) (w wr : World) (v : Value) (l : List ByteArray) : Prop where
  below : Below B w wr
  row : Row.Is 5 wr B v (enc (l.map toL))
theorem enc_snoc (l : List ByteArray) (s : ByteArray) : enc ((l ++ [s]).map toL) = enc (l.map toL) ++ Net.one (toL s) := by
  rw [List.map_append, enc_append]
  show _ ++ (Net.one (toL s) ++ []) = _
  rw [List.append_nil]
theorem enc_take {l : List ByteArray} (hl : ∀ s ∈ l, s.size ≤ 1000000) (n : Nat) (hn : l.length ≤ n) : ∀ j, (enc ((l.take j).map toL)).length ≤ 1000020 * n := by
  intro j
  have h1 : ∀ m : List ByteArray, (∀ s ∈ m, s.size ≤ 1000000) → (enc (m.map toL)).length ≤ 1000020 * m.length := by
    intro m
    induction m with
    | nil => intro _; simp [enc]
    | cons s m ih =>
      intro hm
      have h2 := one_le s (by have := hm s (by simp); omega)
      have h3 := hm s (by simp)
      have h4 := ih fun x hx => hm x (by simp [hx])
      rw [List.map_cons, enc_cons, List.length_append, List.length_cons]
      omega
  have h2 := h1 (l.take j) fun s hs => hl s (List.mem_of_mem_take hs)
  have h3 : (l.take j).length ≤ n := by rw [List.length_take]; omega
  have h4 := Nat.mul_le_mul_left 1000020 h3
  omega

set_option maxRecDepth 100000 in
theorem fold_any (B : Nat) (v : Value) (l : List ByteArray) (A : Option Addr) (n k : Nat) (w : World) (hv : Row.Is 5 w B v []) (hB : B ≤ w.heap.size) (hK : KitB B w) (hR : ∀ w', Below B w w' → Rd w' A l) (hn : l.length = n) (hn2 : n ≤ 100000)
    (hs : ∀ s ∈ l, s.size ≤ 1000000) :
    Calls Tryz.prog 66 #[.slice A n k, v, .func (.func 67) #[] #[]] w fun e w' => ∃ v', e = .returned v' ∧ Kept (Row.Is 5 w' B v' (enc (l.map toL))) ∧ Below B w w' := by
  have HV := Kept.mk hv
  have HB := Kept.mk hB
  have HK := Kept.mk hK
  have HR := Kept.mk hR
  have HN := Kept.mk hn
  have HS := Kept.mk hs
  clear hv hB hK hR hn hs
  go_enter Tryz.func66, Tryz.ntmps66
  go_wp2
  go_loopw [7, 13] (fun v i wr => ∃ j : Nat, j ≤ n ∧ i = .int .i64 j ∧ Kept (FoldIn B w wr v (l.take j))) (fun _ i _ => n - (intOf i).toNat)
  case atStart => exact ⟨0, by omega, rfl, ⟨⟨Below.refl _ _, HV.out⟩⟩⟩
  case round =>
    obtain ⟨j, hj, rfl, hF⟩ := hrel
    by_cases hlt : j < n
    · obtain ⟨g, off, rfl, hg, hc⟩ := (HR.out _ hF.out.below) j (by rw [HN.out]; exact hlt)
      have hsz := HS.out _ (List.getElem_mem (l := l) (n := j) (by rw [HN.out]; exact hlt))
      have HT : Kept (l.take (j + 1) = l.take j ++ [l[j]'(by rw [HN.out]; exact hlt)]) := ⟨List.take_succ_eq_append_getElem _⟩
      have HE : Kept ((enc ((l.take j).map toL)).length ≤ 1000000000000) := ⟨by
        have := enc_take HS.out n (by rw [HN.out]; exact Nat.le_refl _) j
        omega⟩
      generalize l[j]'(by rw [HN.out]; exact hlt) = s at hc hsz HT
      have HW : Kept (B ≤ wr.heap.size) := ⟨Nat.le_trans HB.out hF.out.below.size⟩
      have HKr : Kept (KitB B wr) := ⟨HK.out.below hF.out.below⟩
      go_wp2_with (go_at_call 67; refine (step_any B _ (enc ((l.take j).map toL)) s wr hF.out.row HW.out HKr.out hsz HE.out).mono ?_; rintro e w1 ⟨v1, rfl, hv1, hb1⟩; have HF2 : Kept (FoldIn B w w1 v1 (l.take (j + 1))) := ⟨⟨hF.out.below.trans hb1, by rw [HT.out, enc_snoc]; exact hv1.out⟩⟩; clear hv1 hb1)
      go_roundw
      case rel => exact ⟨j + 1, by omega, by go_num, HF2⟩
      case measure => simp [intOf]; omega
    · have HE : Kept (l.take j = l) := ⟨List.take_of_length_le (by rw [HN.out]; omega)⟩
      go_wp2
      go_ret
      exact ⟨_, rfl, ⟨by have := hF.out.row; rw [HE.out] at this; exact this⟩, hF.out.below⟩

theorem kitB_alloc {B : Nat} {w : World} (h : KitB B w) (hB : B ≤ w.heap.size) (o : Obj) : KitB B (w.alloc o) := h.below ((Below.refl _ _).alloc hB o)

set_option maxRecDepth 100000 in
theorem encode_any (l : List ByteArray) (A : Option Addr) (n k : Nat) (w : World) (hK : Kit w) (hR : Rd w A l) (hn : l.length = n) (hn2 : n ≤ 100000) (hs : ∀ s ∈ l, s.size ≤ 1000000) :
    Calls Tryz.prog 45 #[.slice A n k] w fun e w' => ∃ t : ByteArray, e = .returned (.string t) ∧ Below w.heap.size w w' ∧ Kept (t = bs (enc (l.map toL))) := by
  have HK : Kept (KitB w.heap.size (w.alloc (.cells #[] 5))) := ⟨kitB_alloc hK.toB (Nat.le_refl _) _⟩
  have HR : Kept (∀ w', Below w.heap.size (w.alloc (.cells #[] 5)) w' → Rd w' A l) := ⟨fun w' hb => hR.below (((Below.refl _ _).alloc (Nat.le_refl _) _).trans hb)⟩
  have HN := Kept.mk hn
  have HS := Kept.mk hs
  clear hK hR hn hs
  go_enter Tryz.func45, Tryz.ntmps45
  go_wp2_with (first
    | (go_at_call 66; refine (fold_any w.heap.size _ l A n k _ (Row.Is.fresh w _ _ (Nat.le_refl _)) (by simp) HK.out HR.out HN.out hn2 HS.out).mono ?_; rintro e w1 ⟨v1, rfl, hv1, hb1⟩; have HB : Kept (Below w.heap.size w w1) := ⟨((Below.refl _ _).alloc (Nat.le_refl _) _).trans hb1⟩; clear hb1)
    | (refine By.wpList_string byteTy rfl 9 _ rfl Tryz.underlying9 rfl hv1.out.bs ?_))
  go_ret
  exact ⟨_, rfl, HB.out, ⟨rfl⟩⟩
end Tup
end Go.Proofs.YtjmblgahoejoiaaGreatDoor
