/-
  The document's journal: how many sectors a text needs, a record's head, a sector that is filled up.
-/
import Derived.Test.YtmkpkmkhnphogaaGreatDoorGjm
import Derived.Test.YtmkpkmkhnphogaaGreatDoorIfM
import Derived.WalkKit
import Derived.BigCall
import Derived.Test.YtmkpkmkhnphogaaGreatDoorGtr
import Derived.Test.YtmkpkmkhnphogaaGreatDoorGref
import Derived.Laws.Strings2
import Derived.Laws.Slices
import Derived.StillTailTactics
import Derived.Deep.RegionHeld3
import Derived.Deep.LoopGhost
namespace Go.Proofs.YtmkpkmkhnphogaaGreatDoor
open Go.RowKit Tx Dv
namespace Jr

theorem byteTy : By.Ty Tryz.prog 51 5 := ⟨Tryz.underlying51, Tryz.underlying5, by kernel_rfl⟩

set_option maxRecDepth 100000 in
theorem count_any (n : Nat) (w : World) (hn : n ≤ 1000000000) :
    Calls Tryz.prog 41 #[.int .i64 n] w fun e w' => e = .returned (.int .i64 (Jn.count n : Nat)) ∧ w' = w := by
  have e : ((n : Int) + 63) / 64 = ((Jn.count n : Nat) : Int) := by unfold Jn.count; omega
  have E := Kept.mk e
  clear e
  have h0 : (0 : Int) ≤ n := by omega
  have h1 : (n : Int) ≤ 1000000000 := by omega
  have h2 : (n : Int) + 64 - 1 = (n : Int) + 63 := by omega
  go_enter Tryz.func41, Tryz.ntmps41
  go_wp2
  go_ret
  exact ⟨by rw [E.out]; rfl, rfl⟩

set_option maxRecDepth 100000 in
theorem padded_any (s : ByteArray) (w : World) (hs : s.size ≤ 64) :
    Calls Tryz.prog 51 #[.string s] w fun e w' => ∃ t : ByteArray, e = .returned (.string t) ∧ Below w.heap.size w w' ∧ Kept (t = bs (pad (toL s))) := by
  have y2 : IntKind.i64.wrap (64 - (s.size : Int)) = 64 - (s.size : Int) := IntWalk.i64_in _ (by omega)
  have y3 : (64 - (s.size : Int) + 9223372036854775808) % 18446744073709551616 - 9223372036854775808 = 64 - (s.size : Int) := by omega
  have y4 : (64 - (s.size : Int)) = ((64 - s.size : Nat) : Int) := by omega
  obtain ⟨n, hn⟩ : ∃ n, 64 - s.size = n := ⟨_, rfl⟩
  rw [hn] at y4
  have HN := Kept.mk hn
  have hn2 : n ≤ 1000000 := by omega
  have hz : (bs (List.replicate n 0)).size = n := by rw [bs_size, List.length_replicate]
  have hSm : ¬ 9223372036854775807 < s.size + (bs (List.replicate n 0)).size := by omega
  have HY := Kept.mk y4
  clear hn y4 hz
  go_enter Tryz.func51, Tryz.ntmps51
  go_wp2_with (first
    | (refine Row.wpList_make (B := w.heap.size) byteTy rfl _ _ rfl n (congrArg (Value.int .i64) HY.out) (congrArg (Value.int .i64) HY.out) (Nat.le_refl _) (by omega) ?_; intro v1 w1 hr hg; have HR := Kept.mk hr; have HG := Kept.mk hg; clear hr hg)
    | (refine By.wpList_string byteTy rfl 9 _ rfl Tryz.underlying9 rfl HR.out.bs ?_; change wpList _ _ _ _ (Act.put _ _ (.string (bs (List.replicate n 0)))) _))
  go_ret
  exact ⟨_, rfl, ⟨HG.out.os, HG.out.tape, HG.out.output, HG.out.size, fun k hk => HG.out.block k hk (by simp)⟩, ⟨pad_bs s _ (by rw [HN.out])⟩⟩
end Jr
end Go.Proofs.YtmkpkmkhnphogaaGreatDoor

/-
  The document's journal: a record's head.
-/
namespace Go.Proofs.YtmkpkmkhnphogaaGreatDoor
open Go.RowKit Tx Dv
namespace Jr

theorem sum_length (l : List UInt8) : (Sha.sum l).length = 64 := by unfold Sha.sum Sha.inHex; simp [Sha.St.list, Sha.hex8]
theorem head_bytes (m : UInt8) (n : Nat) (s t1 t2 t3 t4 : ByteArray) (h1 : t1 = Tup.bs (Net.dig n)) (h2 : t2 = Tup.bs (Net.dig s.size)) (h3 : t3 = ⟨(Sha.sum s.data.toList).toArray⟩) (h4 : t4 = Tup.bs (Net.enc ([t1, t2, t3.extract 0 16].map Tup.toL))) : (⟨#[m]⟩ : ByteArray) ++ t4 = bs (Jn.head m n (toL s)) := by
  have e3 : Tup.toL (t3.extract 0 16) = Jn.sum16 (toL s) := by
    rw [Tup.toL_to, h3]
    unfold Jn.sum16 Tup.toL toL
    simp
  have e4 : [t1, t2, t3.extract 0 16].map Tup.toL = [Net.dig n, Net.dig (toL s).length, Jn.sum16 (toL s)] := by
    simp only [List.map_cons, List.map_nil, e3, h1, h2, Tup.toL_bs, toL_length]
  rw [h4, e4]
  show bs [m] ++ bs _ = _
  rw [bs_append]
  rfl

theorem head_parts {n : Nat} {s t1 t2 t3 : ByteArray} (hn : n ≤ 1000000) (hs : s.size ≤ 100000) (h1 : t1 = Tup.bs (Net.dig n)) (h2 : t2 = Tup.bs (Net.dig s.size)) : ∀ x ∈ [t1, t2, t3.extract 0 16], x.size ≤ 1000000 := by
  intro x hx
  have l1 := Jn.dig_le n 6 (by omega)
  have l2 := Jn.dig_le s.size 6 (by omega)
  simp only [List.mem_cons, List.not_mem_nil, or_false] at hx
  rcases hx with rfl | rfl | rfl
  · rw [h1, Tup.bs_size]; omega
  · rw [h2, Tup.bs_size]; omega
  · rw [ByteArray.size_extract]; omega

set_option maxHeartbeats 1000000 in
set_option maxRecDepth 100000 in
theorem head_any (m : UInt8) (n : Nat) (s : ByteArray) (w : World) (hn : n ≤ 1000000) (hs : s.size ≤ 100000) :
    Calls Tryz.prog 44 #[.string ⟨#[m]⟩, .int .i64 n, .string s] w fun e w' => ∃ t : ByteArray, e = .returned (.string t) ∧ Below w.heap.size w w' ∧ Kept (t = bs (Jn.head m n (toL s))) := by
  have HN := Kept.mk hn
  have HS := Kept.mk hs
  have T1 : Kept True := ⟨trivial⟩
  have T2 : Kept True := ⟨trivial⟩
  have hsz : s.size ≤ 9223372036854775807 := by omega
  clear hn hs
  go_enter Tryz.func44, Tryz.ntmps44
  go_wp2_with (first
    | (go_at_call 54
       have := T1
       refine (Tup.digits_any n _ (by have := HN.out; omega)).mono ?_
       rintro e w1 ⟨t1, rfl, hb1, ht1⟩
       have HB1 := Kept.mk hb1
       have HT1 := Kept.mk ht1.out
       clear hb1 ht1 T1 this)
    | (go_at_call 54
       have := T2
       refine (Tup.digits_any s.size _ (by have := HS.out; omega)).mono ?_
       rintro e w2 ⟨t2, rfl, hb2, ht2⟩
       have HB2 := Kept.mk (HB1.out.trans (hb2.mono HB1.out.size))
       have HT2 := Kept.mk ht2.out
       clear hb2 ht2 T2 this)
    | (go_at_call 55
       refine (Sha.refSum_any s _ (by have := HS.out; omega)).mono ?_
       rintro e w3 ⟨t3, rfl, hb3, ht3⟩
       have HB3 := Kept.mk (HB2.out.trans (hb3.mono HB2.out.size))
       have HT3 := Kept.mk ht3.out
       have hsl : ∀ W : World, (Instr.slice 9 (.string t3) none (some (.int .i64 16)) none).run Tryz.prog W = .ok (.string (t3.extract 0 16)) W := fun W => by
         rw [run_slice_string_to_if W 9 t3 .i64 _ Tryz.underlying9, if_pos ⟨by omega, by rw [ht3.out]; show (16 : Int) ≤ ((Sha.sum s.data.toList).toArray.size : Nat); rw [List.size_toArray, sum_length]; decide⟩]
         rfl
       clear hb3 ht3)
    | (go_at_call 53
       refine (Tup.refEnc_any [t1, t2, t3.extract 0 16] _ 3 3 _ (Tup.Rd.of_at (Own.At.fresh w3 _ _ _ rfl)) rfl (by decide) (head_parts HN.out HS.out HT1.out HT2.out)).mono ?_
       rintro e w4 ⟨t4, rfl, hb4, ht4⟩
       have HB4 : Kept (Below w.heap.size w w4) := ⟨HB3.out.trans ((((Below.refl _ _).alloc (Nat.le_refl _) _).trans (hb4.mono (by simp))).mono HB3.out.size)⟩
       have ht5 := head_bytes m n s t1 t2 t3 t4 HT1.out HT2.out HT3.out ht4.out
       have hSm : ¬ 9223372036854775807 < (⟨#[m]⟩ : ByteArray).size + t4.size := by
         have h1 := congrArg ByteArray.size ht5
         rw [ByteArray.size_append, bs_size] at h1
         have h2 := Jn.head_length m n (toL s) (by have := HN.out; omega) (by rw [toL_length]; exact HS.out)
         omega
       have HT4 := Kept.mk ht5
       clear hb4 ht4 ht5))
  go_ret
  exact ⟨_, rfl, HB4.out, ⟨HT4.out⟩⟩
end Jr
end Go.Proofs.YtmkpkmkhnphogaaGreatDoor

/-
  The document's journal: the record at a sector.
-/
namespace Go.Proofs.YtmkpkmkhnphogaaGreatDoor
open Go.RowKit Tx Dv
namespace Jr

theorem byte_toL (t : ByteArray) (q : Nat) (h : q < t.size) : (toL t).getD q 0 = t[q]'h := by
  rw [List.getD_eq_getElem?_getD, List.getElem?_eq_getElem (by rw [toL_length]; exact h)]
  rfl
theorem byte_eq {t : ByteArray} {q : Nat} (h : q < t.size) (c : UInt8) (n : Int) (hn : n = c.toNat) (he : (toL t).getD q 0 = c) : (((t[q]'h).toNat : Int) == n) = true ∧ (((t[q]'h).toNat : Int) != n) = false := by
  rw [byte_toL t q h] at he
  subst hn
  rw [he]
  simp
theorem byte_ne {t : ByteArray} {q : Nat} (h : q < t.size) (c : UInt8) (n : Int) (hn : n = c.toNat) (he : (toL t).getD q 0 ≠ c) : (((t[q]'h).toNat : Int) == n) = false ∧ (((t[q]'h).toNat : Int) != n) = true := by
  rw [byte_toL t q h] at he
  subst hn
  have : ((t[q]'h).toNat : Int) ≠ (c.toNat : Int) := fun e => he (UInt8.toNat_inj.1 (by omega))
  simp [this]
theorem refDec_some (s : ByteArray) (l : List ByteArray) (w : World) (hs : s.size ≤ 4000000000) (h : Net.dec (Tup.toL s) = some (l.map Tup.toL)) :
    Calls Tryz.prog 49 #[.string s] w fun e w' => ∃ A k, e = .returned (.tuple #[.slice A l.length k, .int .i64 0]) ∧ Below w.heap.size w w' ∧ Kept (Tup.Rd w' A l) := by
  refine (Tup.refDec_any s w hs).mono ?_
  rintro e w' ⟨v, k, rfl, hb, hd⟩
  rcases hd.out with ⟨h1, _⟩ | ⟨m, h1, he, rfl⟩
  · rw [h] at h1; cases h1
  · rw [h] at h1
    obtain rfl := Tup.map_toL_inj (Option.some.inj h1)
    obtain ⟨A, k, rfl, hr⟩ := Tup.Rd.of_es he
    exact ⟨A, k, rfl, hb, ⟨hr⟩⟩
theorem refDec_none (s : ByteArray) (w : World) (hs : s.size ≤ 4000000000) (h : Net.dec (Tup.toL s) = none) :
    Calls Tryz.prog 49 #[.string s] w fun e w' => e = .returned (.tuple #[.slice none 0 0, .int .i64 20]) ∧ Below w.heap.size w w' := by
  refine (Tup.refDec_any s w hs).mono ?_
  rintro e w' ⟨v, k, rfl, hb, hd⟩
  rcases hd.out with ⟨h1, rfl, rfl⟩ | ⟨m, h1, he, rfl⟩
  · exact ⟨rfl, hb⟩
  · rw [h] at h1; cases h1
theorem Ref.below {w w' : World} {B : Nat → Prop} {p : Value} {D : Disk} (h : Ref w B p D) (hb : Below w.heap.size w w') : Ref w' B p D := h.keep (fun k hk => hb.block k (h.lt k hk)) hb.size
/-- What `read` answers. -/
def ReadPost (D : Disk) (a n : Nat) (w : World) (e : Ending) (w' : World) : Prop := ∃ (t : ByteArray) (b : Bool), e = .returned (.tuple #[.string t, .bool b]) ∧ Below w.heap.size w w' ∧ Kept (Jn.ReadIs D a n (toL t) b)

set_option maxHeartbeats 1000000 in
set_option maxRecDepth 100000 in
theorem read_out_any (w : World) (B : Nat → Prop) (p : Value) (D : Disk) (h : Ref w B p D) (a n : Nat) (ha : a ≤ 1000000) (hs : D.S.length ≤ a) :
    Calls Tryz.prog 40 #[p, .int .i64 a, .int .i64 n] w (ReadPost D a n w) := by
  have hr := h.read (a : Int) (by omega) (by omega)
  rw [read_out (by omega)] at hr
  have HR := Kept.mk hr
  have HN := Kept.mk (Jn.none_out (n := n) hs)
  clear h hr
  go_enter Tryz.func40, Tryz.ntmps40
  go_wp2_with (go_at_call 22
               refine HR.out.mono ?_
               rintro e w1 ⟨t, rfl, ht, hw⟩
               obtain rfl := hw.symm
               clear ht)
  go_ret2
  exact ⟨_, _, rfl, Below.refl _ _, ⟨.inr ⟨rfl, HN.out⟩⟩⟩

set_option maxHeartbeats 1000000 in
set_option maxRecDepth 100000 in
theorem read_first_any (w : World) (B : Nat → Prop) (p : Value) (D : Disk) (h : Ref w B p D) (a n : Nat) (hs : a < D.S.length) (hf : (Jn.sec D a).getD 0 0 ≠ 49) :
    Calls Tryz.prog 40 #[p, .int .i64 a, .int .i64 n] w (ReadPost D a n w) := by
  have ho : D.Ok := by obtain ⟨_, _, _, _, _, h, _⟩ := h; exact h.ok
  have hmx := ho.few
  have hr := h.read (a : Int) (by omega) (by omega)
  rw [read_has hs] at hr
  have HR := Kept.mk hr
  have HN : Kept (∀ s, ¬ Jn.IsRec D a n s) := ⟨Jn.none_first (fun e => hf (by
    cases hx : Jn.sec D a with
    | nil => rw [hx] at e; cases e
    | cons b l => rw [hx] at e; simpa using e))⟩
  have hl := sec_length ho hs
  obtain ⟨T, hT⟩ : ∃ T, T = bs (Jn.sec D a) := ⟨_, rfl⟩
  have h0 : 0 < T.size := by rw [hT, bs_size, hl]; decide
  obtain ⟨-, hne⟩ := byte_ne h0 49 49 rfl (by rw [hT, toL_bs]; exact hf)
  have HT := Kept.mk hT
  clear h hr hl hT hf ho
  go_enter Tryz.func40, Tryz.ntmps40
  go_wp2_with (go_at_call 22
               refine HR.out.mono ?_
               rintro e w1 ⟨t, rfl, ht, hw⟩
               obtain rfl := hw.symm
               obtain rfl : t = T := ht.out.trans HT.out.symm
               clear ht)
  go_ret2
  exact ⟨_, _, rfl, Below.refl _ _, ⟨.inr ⟨rfl, HN.out⟩⟩⟩

set_option maxHeartbeats 4000000 in
set_option maxRecDepth 100000 in
theorem read_main_any (w : World) (B : Nat → Prop) (p : Value) (D : Disk) (h : Ref w B p D) (a n : Nat) (hn : n ≤ 1000000) (hs : a < D.S.length) (hf : (Jn.sec D a).getD 0 0 = 49) :
    Calls Tryz.prog 40 #[p, .int .i64 a, .int .i64 n] w (ReadPost D a n w) := by
  have ho : D.Ok := by obtain ⟨_, _, _, _, _, h, _⟩ := h; exact h.ok
  have hmx := ho.few
  have hr := h.read (a : Int) (by omega) (by omega)
  rw [read_has hs] at hr
  have HR := Kept.mk hr
  have hl := sec_length ho hs
  obtain ⟨T, hT⟩ : ∃ T, T = bs (Jn.sec D a) := ⟨_, rfl⟩
  have hTl : toL T = Jn.sec D a := by rw [hT, toL_bs]
  have hsz : T.size = 64 := by rw [hT, bs_size, hl]
  have h0 : 0 < T.size := by omega
  obtain ⟨-, hne⟩ := byte_eq h0 49 49 rfl (by rw [hTl]; exact hf)
  obtain ⟨Q, hQ⟩ : ∃ Q, (Jn.strip (Jn.sec D a)).length = Q + 1 := ⟨(Jn.strip (Jn.sec D a)).length - 1, by have := Jn.strip_pos (Jn.sec D a) (by rw [hf]; decide); omega⟩
  have hQ64 : Q + 1 ≤ 64 := by have := Jn.strip_le (Jn.sec D a); omega
  have HZ : Kept (∀ q, Q + 1 ≤ q → (toL T).getD q 0 = 0) := ⟨fun q hq => by rw [hTl]; exact Jn.strip_zero _ _ (by omega)⟩
  have HL : Kept ((toL T).getD Q 0 ≠ 0) := ⟨by rw [hTl]; have := Jn.strip_last (Jn.sec D a) (by omega); rw [hQ] at this; exact this⟩
  have HX : Kept (toL (T.extract 1 (Q + 1)) = (Jn.strip (Jn.sec D a)).drop 1) := ⟨by
    rw [toL_extract, hTl]
    conv => rhs; rw [Jn.strip_take, hQ]
    rw [List.drop_take]⟩
  have hsl : ∀ W : World, (Instr.slice 9 (.string T) (some (.int .i64 1)) (some (.int .i64 ((Q : Int) + 1))) none).run Tryz.prog W = .ok (.string (T.extract 1 (Q + 1))) W := fun W => by
    rw [run_slice_string W 9 T .i64 .i64 _ _ Tryz.underlying9 (by omega) (by omega) (by omega), show ((Q : Int) + 1).toNat = Q + 1 by omega]
    rfl
  have HT := Kept.mk hT
  have HO := Kept.mk ho
  have HSZ := Kept.mk hsz
  have HD := Kept.mk h
  have HNN := Kept.mk hn
  clear h hr hl hT hTl hf ho hQ hsz hn
  go_enter Tryz.func40, Tryz.ntmps40
  go_wp2_with (go_at_call 22
               refine HR.out.mono ?_
               rintro e w1 ⟨t, rfl, ht, hw⟩
               obtain rfl := hw.symm
               obtain rfl : t = T := ht.out.trans HT.out.symm
               clear ht)
  go_loop [10] (fun v => ∃ q : Nat, Q ≤ q ∧ q + 1 ≤ t.size ∧ v = .int .i64 ((q : Int) + 1)) (fun v => (intOf v).toNat)
  case atStart => exact ⟨t.size - 1, by have := HSZ.out; omega, by omega, by congr 1; omega⟩
  case round =>
    obtain ⟨q, hq, hqs, rfl⟩ := hrel
    have z0 : (0 : Int) < (q : Int) + 1 := by omega
    have z1 : (q : Int) < t.size := by omega
    have hqt : q < t.size := by omega
    have z2 : (q : Int) ≤ 63 := by have := HSZ.out; omega
    have z3 : (0 : Int) ≤ q := by omega
    by_cases hlt : Q < q
    · obtain ⟨hb, -⟩ := byte_eq hqt 0 0 rfl (HZ.out q (by omega))
      clear hsl
      go_wp2
      go_round
      case rel => exact ⟨q - 1, by omega, by omega, by congr 1; omega⟩
      case measure => simp [intOf]
    · obtain rfl : q = Q := by omega
      obtain ⟨hb, -⟩ := byte_ne hqt 0 0 rfl HL.out
      have hXs : Kept ((t.extract 1 (q + 1)).size ≤ 4000000000) := ⟨by rw [ByteArray.size_extract]; omega⟩
      have hn9 : n < 1000000000 := by have := HNN.out; omega
      have HN9 := Kept.mk hn9
      clear hn9
      generalize hX : t.extract 1 (q + 1) = X at *
      cases hd : Net.dec (toL X) with
      | none =>
        have HD0 : Kept (Net.dec (Tup.toL X) = none) := ⟨hd⟩
        have HF : Kept (∀ s, ¬ Jn.IsRec D a n s) := ⟨Jn.none_dec HN9.out (by rw [← HX.out]; exact hd)⟩
        clear hd hX
        go_wp2_with (go_at_call 49
                     refine (refDec_none X _ hXs.out HD0.out).mono ?_
                     rintro e w1 ⟨rfl, hb1⟩
                     have HB1 := Kept.mk hb1
                     clear hb1)
        go_ret2
        exact ⟨_, _, rfl, HB1.out, ⟨.inr ⟨rfl, HF.out⟩⟩⟩
      | some l =>
        have HDec : Kept (Net.dec ((Jn.strip (Jn.sec D a)).drop 1) = some l) := ⟨by rw [← HX.out]; exact hd⟩
        have HDs : Kept (Net.dec (Tup.toL X) = some ((l.map Tup.bs).map Tup.toL)) := ⟨by rw [Tup.map_bs_toL]; exact hd⟩
        have HBig : Kept (∀ x ∈ l, x.length < 1000000000) := ⟨(Net.decF_some _ hd).2⟩
        clear hd hX
        by_cases h3 : l.length = 3
        · obtain ⟨x, y, z, rfl⟩ : ∃ x y z, l = [x, y, z] := by
            match l, h3 with
            | [x, y, z], _ => exact ⟨x, y, z, rfl⟩
          clear h3
          have HDs2 : Kept (Net.dec (Tup.toL X) = some ([Tup.bs x, Tup.bs y, Tup.bs z].map Tup.toL)) := ⟨HDs.out⟩
          have hys : (Tup.bs y).size ≤ 9223372036854775807 := by rw [Tup.bs_size]; have := HBig.out y (by simp); omega
          have HYS := Kept.mk hys
          clear hys
          cases hy : Net.num y with
          | none =>
            have HNum : Kept (∀ w, Calls Tryz.prog 50 #[.string (Tup.bs y)] w fun e w' => e = .returned (.int .i64 (-1)) ∧ w' = w) := ⟨fun w => Tup.number_is _ w HYS.out _ _ (Tup.toL_bs y) (by unfold Tup.numI; rw [hy])⟩
            have HF : Kept (∀ s, ¬ Jn.IsRec D a n s) := ⟨Jn.none_num HN9.out HDec.out hy⟩
            clear hy
            go_wp2_with (first
              | (go_at_call 49
                 refine (refDec_some X _ _ hXs.out HDs2.out).mono ?_
                 rintro e w1 ⟨A, k, rfl, hb1, hR⟩
                 have HB1 := Kept.mk hb1
                 obtain ⟨g, off, rfl, hg, hc⟩ := hR.out 1 (by simp)
                 change w1.cell? ⟨g, off + 1, none⟩ = some (.string (Tup.bs y)) at hc
                 clear hb1 hR hg)
              | (go_at_call 50
                 refine (HNum.out _).mono ?_
                 rintro e w2 ⟨rfl, hw⟩
                 obtain rfl := hw.symm))
            go_ret2
            exact ⟨_, _, rfl, HB1.out, ⟨.inr ⟨rfl, HF.out⟩⟩⟩
          | some m =>
            have HNum : Kept (∀ w, Calls Tryz.prog 50 #[.string (Tup.bs y)] w fun e w' => e = .returned (.int .i64 m) ∧ w' = w) := ⟨fun w => Tup.number_is _ w HYS.out _ _ (Tup.toL_bs y) (by unfold Tup.numI; rw [hy])⟩
            have hm9 := (Net.num_some hy).2.1
            have m0 : (0 : Int) ≤ m := by omega
            have HY := Kept.mk hy
            clear hy
            by_cases hm : m ≤ 100000
            · have m1 : (m : Int) ≤ 100000 := by omega
              have HM := Kept.mk hm
              obtain ⟨C, hC⟩ : ∃ C, Jn.count m = C := ⟨_, rfl⟩
              have hC1 : C ≤ 2000 := by rw [← hC]; unfold Jn.count; omega
              have HCnt : Kept (∀ w, Calls Tryz.prog 41 #[.int .i64 m] w fun e w' => e = .returned (.int .i64 C) ∧ w' = w) := ⟨fun w => by have := count_any m w (by omega); rw [hC] at this; exact this⟩
              have HC := Kept.mk hC
              obtain ⟨Z, hZ⟩ : ∃ Z, D.S.length = Z := ⟨_, rfl⟩
              have HZ2 := Kept.mk hZ
              rw [hZ] at hs hmx
              have c0 : (0 : Int) ≤ C := by omega
              have c1 : (C : Int) ≤ 2000 := by omega
              have a0 : (0 : Int) ≤ a := by omega
              have a1 : (a : Int) ≤ 4096 := by omega
              clear hm hC hZ hm9
              by_cases hr : a + 1 + C ≤ Z
              · have r1 : (a : Int) + 1 + C ≤ Z := by omega
                have HRm := Kept.mk hr
                go_wp2_with (first
              | (go_at_call 49
                 refine (refDec_some X _ _ hXs.out HDs2.out).mono ?_
                 rintro e w1 ⟨A, k, rfl, hb1, hR⟩
                 have HB1 := Kept.mk hb1
                 have HD1 := Kept.mk (Ref.below HD.out hb1)
                 obtain ⟨g, off, rfl, hg, hc⟩ := hR.out 1 (by simp)
                 change w1.cell? ⟨g, off + 1, none⟩ = some (.string (Tup.bs y)) at hc
                 clear hb1 hR hg)
              | (go_at_call 50
                 refine (HNum.out _).mono ?_
                 rintro e w2 ⟨rfl, hw⟩
                 obtain rfl := hw.symm)
              | (go_at_call 41
                 refine (HCnt.out _).mono ?_
                 rintro e w2 ⟨rfl, hw⟩
                 obtain rfl := hw.symm)
              | (go_at_call 33
                 refine (HD1.out.size).mono ?_
                 rw [HZ2.out]
                 rintro e w2 ⟨rfl, hw⟩
                 obtain rfl := hw.symm))
                have HRd : Kept (∀ j : Nat, j < C → Calls Tryz.prog 22 #[p, .int .i64 ((a : Int) + 1 + j)] w1 fun e w' => ∃ u : ByteArray, e = .returned (.tuple #[.string u, .int .i64 0]) ∧ Kept (u = bs (Jn.sec D (a + 1 + j))) ∧ w' = w1) := ⟨fun j hj => by
                  have h1 := HD1.out.read ((a : Int) + 1 + j) (by omega) (by omega)
                  rw [show (a : Int) + 1 + j = ((a + 1 + j : Nat) : Int) by omega, read_has (by rw [HZ2.out]; omega)] at h1
                  rw [show (a : Int) + 1 + j = ((a + 1 + j : Nat) : Int) by omega]
                  exact h1⟩
                go_loop [13, 14] (fun s i => ∃ (j : Nat) (u : ByteArray), j ≤ C ∧ i = .int .i64 j ∧ s = .string u ∧ Kept (u = bs (Jn.bytes D (a + 1) j))) (fun _ i => C - (intOf i).toNat)
                case atStart => exact ⟨0, _, by omega, rfl, rfl, ⟨rfl⟩⟩
                case round =>
                  obtain ⟨j, u, hj, rfl, rfl, hu⟩ := hrel
                  by_cases hlt : j < C
                  · have hus : u.size = 64 * j := by rw [hu.out, bs_size, Jn.bytes_length HO.out _ _ (by rw [HZ2.out]; omega)]
                    have j0 : (j : Int) < C := by omega
                    have HJ := Kept.mk hlt
                    have hus2 : u.size ≤ 128000 := by omega
                    clear hus
                    go_wp2_with (first
                      | (go_at_call 41
                         refine (HCnt.out _).mono ?_
                         rintro e w2 ⟨rfl, hw⟩
                         obtain rfl := hw.symm)
                      | (go_at_call 22
                         refine (HRd.out j HJ.out).mono ?_
                         rintro e w2 ⟨v, rfl, hv, hw⟩
                         obtain rfl := hw.symm
                         have hSm : ¬ 9223372036854775807 < u.size + v.size := by
                           have hvs : v.size = 64 := by rw [hv.out, bs_size, sec_length HO.out (by rw [HZ2.out]; omega)]
                           omega
                         have HV : Kept (u ++ v = bs (Jn.bytes D (a + 1) (j + 1))) := ⟨by rw [hu.out, hv.out, bs_append, Jn.bytes_succ]⟩
                         clear hv))
                    go_round
                    case rel => exact ⟨j + 1, _, by omega, by go_num, rfl, HV⟩
                    case measure => simp [intOf]; omega
                  · obtain rfl : j = C := by omega
                    have hul : u.size = 64 * j := by rw [hu.out, bs_size, Jn.bytes_length HO.out _ _ (by rw [HZ2.out]; omega)]
                    have hum : m ≤ u.size := by rw [hul, ← HC.out]; unfold Jn.count; omega
                    have hsl2 : ∀ W : World, (Instr.slice 9 (.string u) none (some (.int .i64 (m : Int))) none).run Tryz.prog W = .ok (.string (u.extract 0 m)) W := fun W => by
                      rw [run_slice_string_to_if W 9 u .i64 _ Tryz.underlying9, if_pos ⟨by omega, by omega⟩]
                      rfl
                    have HU : Kept (toL (u.extract 0 m) = (Jn.bytes D (a + 1) (Jn.count m)).take m) := ⟨by rw [toL_extract, hu.out, toL_bs, HC.out]; rfl⟩
                    have HUs : Kept ((u.extract 0 m).size ≤ 100000) := ⟨by rw [ByteArray.size_extract]; have := HM.out; omega⟩
                    clear hul hum hu hlt hj
                    generalize hx : u.extract 0 m = x' at *
                    clear hx
                    have hfin : ∃ b : Bool, Kept (Jn.ReadIs D a n (toL x') b) ∧ Kept (decide (bs (pad (Jn.head 49 n (toL x'))) = t) = b) := by
                      by_cases he : pad (Jn.head 49 n ((Jn.bytes D (a + 1) (Jn.count m)).take m)) = Jn.sec D a
                      · refine ⟨true, ⟨.inl ⟨rfl, ?_⟩⟩, ⟨decide_eq_true (by rw [HU.out, he, HT.out])⟩⟩
                        rw [HU.out]
                        exact Jn.read_yes HO.out HM.out (by rw [HC.out, HZ2.out]; exact HRm.out) he
                      · refine ⟨false, ⟨.inr ⟨rfl, Jn.read_no HN9.out HDec.out HY.out he⟩⟩, ⟨decide_eq_false (fun e => he ?_)⟩⟩
                        rw [HU.out, HT.out] at e
                        exact bs_inj e
                    obtain ⟨b, HB, HE⟩ := hfin
                    go_wp2_with (first
                      | (go_at_call 41
                         refine (HCnt.out _).mono ?_
                         rintro e w2 ⟨rfl, hw⟩
                         obtain rfl := hw.symm)
                      | (go_at_call 44
                         refine (head_any 49 n x' _ HNN.out HUs.out).mono ?_
                         rintro e w3 ⟨t4, rfl, hb3, ht4⟩
                         have HB3 := Kept.mk (HB1.out.trans (hb3.mono HB1.out.size))
                         have HT4 := Kept.mk ht4.out
                         clear hb3 ht4)
                      | (go_at_call 51
                         refine (padded_any t4 _ (by rw [HT4.out, bs_size]; exact Jn.head_length 49 n _ HN9.out (by rw [toL_length]; exact HUs.out))).mono ?_
                         rintro e w4 ⟨t5, rfl, hb4, ht5⟩
                         have HB4 := Kept.mk (HB3.out.trans (hb4.mono HB3.out.size))
                         have hfe : (t5.toList == t.toList) = b := by rw [beq_str, ht5.out, HT4.out, toL_bs]; exact HE.out
                         clear hb4 ht5))
                    go_ret2
                    exact ⟨_, _, rfl, HB4.out, HB⟩
              · have HF : Kept (∀ s, ¬ Jn.IsRec D a n s) := ⟨Jn.none_size HN9.out HDec.out HY.out (.inr (by rw [HC.out, HZ2.out]; omega))⟩
                have r1 : (Z : Int) < (a : Int) + 1 + C := by omega
                clear hr
                go_wp2_with (first
              | (go_at_call 49
                 refine (refDec_some X _ _ hXs.out HDs2.out).mono ?_
                 rintro e w1 ⟨A, k, rfl, hb1, hR⟩
                 have HB1 := Kept.mk hb1
                 have HD1 := Kept.mk (Ref.below HD.out hb1)
                 obtain ⟨g, off, rfl, hg, hc⟩ := hR.out 1 (by simp)
                 change w1.cell? ⟨g, off + 1, none⟩ = some (.string (Tup.bs y)) at hc
                 clear hb1 hR hg)
              | (go_at_call 50
                 refine (HNum.out _).mono ?_
                 rintro e w2 ⟨rfl, hw⟩
                 obtain rfl := hw.symm)
              | (go_at_call 41
                 refine (HCnt.out _).mono ?_
                 rintro e w2 ⟨rfl, hw⟩
                 obtain rfl := hw.symm)
              | (go_at_call 33
                 refine (HD1.out.size).mono ?_
                 rw [HZ2.out]
                 rintro e w2 ⟨rfl, hw⟩
                 obtain rfl := hw.symm))
                go_ret2
                exact ⟨_, _, rfl, HB1.out, ⟨.inr ⟨rfl, HF.out⟩⟩⟩
            · have HF : Kept (∀ s, ¬ Jn.IsRec D a n s) := ⟨Jn.none_size HN9.out HDec.out HY.out (.inl (by omega))⟩
              have m1 : (100000 : Int) < m := by omega
              clear hm hm9
              go_wp2_with (first
              | (go_at_call 49
                 refine (refDec_some X _ _ hXs.out HDs2.out).mono ?_
                 rintro e w1 ⟨A, k, rfl, hb1, hR⟩
                 have HB1 := Kept.mk hb1
                 have HD1 := Kept.mk (Ref.below HD.out hb1)
                 obtain ⟨g, off, rfl, hg, hc⟩ := hR.out 1 (by simp)
                 change w1.cell? ⟨g, off + 1, none⟩ = some (.string (Tup.bs y)) at hc
                 clear hb1 hR hg)
              | (go_at_call 50
                 refine (HNum.out _).mono ?_
                 rintro e w2 ⟨rfl, hw⟩
                 obtain rfl := hw.symm))
              go_ret2
              exact ⟨_, _, rfl, HB1.out, ⟨.inr ⟨rfl, HF.out⟩⟩⟩
        · have HF : Kept (∀ s, ¬ Jn.IsRec D a n s) := ⟨Jn.none_three HN9.out HDec.out h3⟩
          have hl3 : (((l.map Tup.bs).length : Int) == 3) = false ∧ (((l.map Tup.bs).length : Int) != 3) = true := by
            rw [List.length_map]
            have : (l.length : Int) ≠ 3 := by omega
            simp [this]
          obtain ⟨l1, l2⟩ := hl3
          generalize hL : l.map Tup.bs = L at *
          clear h3 hL
          go_wp2_with (go_at_call 49
                       refine (refDec_some X _ _ hXs.out HDs.out).mono ?_
                       rintro e w1 ⟨A, k, rfl, hb1, hR⟩
                       have HB1 := Kept.mk hb1
                       clear hb1 hR)
          go_ret2
          exact ⟨_, _, rfl, HB1.out, ⟨.inr ⟨rfl, HF.out⟩⟩⟩
end Jr
end Go.Proofs.YtmkpkmkhnphogaaGreatDoor

/-
  The document's journal in memory; Open, Records, Clear.
-/
namespace Go.Proofs.YtmkpkmkhnphogaaGreatDoor
open Go.RowKit Tx Dv
namespace Jr

theorem strTy : Own.Ty Tryz.prog 32 9 (.string ⟨#[]⟩) 16 := ⟨Tryz.underlying32, by kernel_rfl, rfl⟩
theorem str_one (s : ByteArray) : (Value.string s).oneCell' = true := rfl

theorem read_any (w : World) (B : Nat → Prop) (p : Value) (D : Disk) (h : Ref w B p D) (a n : Nat) (ha : a ≤ D.S.length) (hn : n ≤ 1000000) :
    Calls Tryz.prog 40 #[p, .int .i64 a, .int .i64 n] w (ReadPost D a n w) := by
  have hmx : D.S.length ≤ 4096 := by obtain ⟨_, _, _, _, _, h, _⟩ := h; exact h.ok.few
  by_cases hs : a < D.S.length
  · by_cases hf : (Jn.sec D a).getD 0 0 = 49
    · exact read_main_any w B p D h a n hn hs hf
    · exact read_first_any w B p D h a n hs hf
  · exact read_out_any w B p D h a n (by omega) (by omega)

/-- The journal at block g: its device is d, its records are the slice v's texts. -/
structure JAt (w : World) (b g : Nat) (d v : Value) (J : Jn.Jour) : Prop where
  lt : g < w.heap.size
  low : b ≤ g
  c0 : w.cell? ⟨g, 0, none⟩ = some d
  c1 : w.cell? ⟨g, 1, none⟩ = some v
  c2 : w.cell? ⟨g, 2, none⟩ = some (.int .i64 J.pos)
  free : ∀ j, j < 3 → w.frozen? ⟨g, j, none⟩ = false
  es : Own.Es Value.string w b v (J.L.map bs)
  apart : v.ownBlock ≠ some g
  ptr : ∃ a, d = .pointer a
  few : J.L.length ≤ 4096
  pos : J.pos ≤ 4096
section
variable {w w' : World} {b g : Nat} {d v : Value} {J : Jn.Jour}
theorem JAt.keep (h : JAt w b g d v J) (h1 : w'.heap[g]? = w.heap[g]?) (h2 : ∀ k, v.ownBlock = some k → w'.heap[k]? = w.heap[k]?) (hs : w.heap.size ≤ w'.heap.size) : JAt w' b g d v J :=
  ⟨Nat.lt_of_lt_of_le h.lt hs, h.low, (World.cell?_of_block (w := w) (a := ⟨g, 0, none⟩) h1).trans h.c0, (World.cell?_of_block (w := w) (a := ⟨g, 1, none⟩) h1).trans h.c1, (World.cell?_of_block (w := w) (a := ⟨g, 2, none⟩) h1).trans h.c2,
    fun j hj => (World.frozen?_of_block (w := w) (a := ⟨g, j, none⟩) h1).trans (h.free j hj), h.es.keep h2 hs, h.apart, h.ptr, h.few, h.pos⟩
theorem JAt.below (h : JAt w b g d v J) (hb : Below w.heap.size w w') : JAt w' b g d v J := h.keep (hb.block g h.lt) (fun k hk => hb.block k (h.es.lt k hk).2) hb.size
theorem JAt.setPos (h : JAt w b g d v J) (n : Nat) (hn : n ≤ 4096) : JAt (w.setCell ⟨g, 2, none⟩ (.int .i64 n)) b g d v ⟨J.L, n⟩ :=
  ⟨by simpa [World.setCell] using h.lt, h.low, (World.cell?_setCell_other w _ _ _ (by simp)).trans h.c0, (World.cell?_setCell_other w _ _ _ (by simp)).trans h.c1, World.cell?_setCell_same w _ _ h.c2,
    fun j hj => by rw [World.frozen?_setCell]; exact h.free j hj, h.es.far h.apart _, h.apart, h.ptr, h.few, hn⟩
/-- The list, one record more: what append has left, put into the struct. -/
theorem JAt.push {w3 : World} {v2 : Value} {s : List UInt8} (h : JAt w b g d v J) (he : Own.Es Value.string w3 b v2 (J.L.map bs ++ [bs s])) (hg : w.grownBy w3 v.ownBlock) (hf : J.L.length + 1 ≤ 4096) : JAt (w3.setCell ⟨g, 1, none⟩ v2) b g d v2 ⟨J.L ++ [s], J.pos⟩ := by
  have hgb : w3.heap[g]? = w.heap[g]? := hg.block g h.lt (fun e => h.apart e.symm)
  have c : ∀ j, w3.cell? ⟨g, j, none⟩ = w.cell? ⟨g, j, none⟩ := fun j => World.cell?_of_block (w := w) (a := ⟨g, j, none⟩) hgb
  have hap : v2.ownBlock ≠ Option.some g := by
    intro e
    obtain ⟨r, cap, e2, _, hat, _⟩ := he.form (by simp)
    rw [e2] at e
    injection e with e
    subst e
    have h0 := hat.cell 0 (by simp)
    rw [Nat.zero_add, c 0, h.c0] at h0
    obtain ⟨x, rfl⟩ := h.ptr
    injection h0 with h0
    cases h0
  refine ⟨by have := hg.size; have := h.lt; simp only [World.setCell, Array.size_modify]; omega, h.low, (World.cell?_setCell_other w3 _ _ _ (by simp)).trans ((c 0).trans h.c0), World.cell?_setCell_same w3 _ _ ((c 1).trans h.c1), (World.cell?_setCell_other w3 _ _ _ (by simp)).trans ((c 2).trans h.c2),
    fun j hj => ?_, ?_, hap, h.ptr, by simpa using hf, h.pos⟩
  · rw [World.frozen?_setCell, World.frozen?_of_block (w := w) (a := ⟨g, j, none⟩) hgb]
    exact h.free j hj
  · have := he.far (a := ⟨g, 1, none⟩) hap v2
    simpa using this
theorem JAt.still {w3 : World} (h : JAt w b g d v J) (hg : w.grownBy w3 v.ownBlock) : w3.cell? ⟨g, 1, none⟩ = Option.some v ∧ w3.frozen? ⟨g, 1, none⟩ = false ∧ w3.cell? ⟨g, 2, none⟩ = Option.some (.int .i64 J.pos) ∧ w3.frozen? ⟨g, 2, none⟩ = false ∧ w3.cell? ⟨g, 0, none⟩ = Option.some d := by
  have hgb : w3.heap[g]? = w.heap[g]? := hg.block g h.lt (fun e => h.apart e.symm)
  exact ⟨(World.cell?_of_block (w := w) (a := ⟨g, 1, none⟩) hgb).trans h.c1, (World.frozen?_of_block (w := w) (a := ⟨g, 1, none⟩) hgb).trans (h.free 1 (by omega)), (World.cell?_of_block (w := w) (a := ⟨g, 2, none⟩) hgb).trans h.c2, (World.frozen?_of_block (w := w) (a := ⟨g, 2, none⟩) hgb).trans (h.free 2 (by omega)), (World.cell?_of_block (w := w) (a := ⟨g, 0, none⟩) hgb).trans h.c0⟩
end

/-- Open's loop. -/
structure OpenIn (w wr : World) (B : Nat → Prop) (d v : Value) (D : Disk) (L : List (List UInt8)) (e : Nat) : Prop where
  at' : JAt wr w.heap.size w.heap.size d v ⟨L, e⟩
  dev : Ref wr B d D
  recs : Jn.Recs D 0 0 L e
  below : Below w.heap.size w wr
theorem open_start {w : World} {B : Nat → Prop} {d : Value} {D : Disk} (h : Ref w B d D) : OpenIn w (w.alloc (.cells #[d, .slice none 0 0, .int .i64 0] 65)) B d (.slice none 0 0) D [] 0 := by
  have hc : ∀ j, (w.alloc (.cells #[d, .slice none 0 0, .int .i64 0] 65)).cell? ⟨w.heap.size, j, none⟩ = (#[d, Value.slice none 0 0, .int .i64 0] : Array Value)[j]? := fun j => cell_of_row _ _ j _ _ (0, 0) (heap_alloc_new w _)
  obtain ⟨a, ha⟩ := h.ptr
  exact ⟨⟨by simp, Nat.le_refl _, hc 0, hc 1, hc 2, fun j _ => frozen_of_row _ _ j _ _ (heap_alloc_new w _), Own.Es.nil _ _ _, (fun e => by cases e), ⟨_, ha⟩, by simp, by simp⟩, Ref.below h ((Below.refl _ _).alloc (Nat.le_refl _) _), rfl, (Below.refl _ _).alloc (Nat.le_refl _) _⟩
section
variable {w wr w2 : World} {B : Nat → Prop} {d v : Value} {D : Disk} {L : List (List UInt8)} {e : Nat}
theorem OpenIn.on (h : OpenIn w wr B d v D L e) (hb : Below wr.heap.size wr w2) : OpenIn w w2 B d v D L e := ⟨h.at'.below hb, Ref.below h.dev hb, h.recs, h.below.trans (hb.mono h.below.size)⟩
theorem OpenIn.le (h : OpenIn w wr B d v D L e) : e ≤ D.S.length ∧ L.length ≤ e ∧ D.S.length ≤ 4096 := by
  have h1 : D.S.length ≤ 4096 := by obtain ⟨_, _, _, _, _, h, _⟩ := h.dev; exact h.ok.few
  have h2 := h.recs.le (Nat.zero_le _)
  omega
end

set_option maxHeartbeats 2000000 in
set_option maxRecDepth 100000 in
theorem open_any (w : World) (B : Nat → Prop) (d : Value) (D : Disk) (h : Ref w B d D) :
    Calls Tryz.prog 19 #[d] w fun e w' => ∃ v L a, e = .returned (.pointer (some ⟨w.heap.size, 0, none⟩)) ∧ JAt w' w.heap.size w.heap.size d v ⟨L, a⟩ ∧ Jn.Opened D L a ∧ Below w.heap.size w w' := by
  have H0 := Kept.mk (open_start h)
  have HREF := Kept.mk h
  obtain ⟨dp, rfl⟩ := h.ptr
  have hbd : ∀ W : World, (Instr.build 65 #[(0, .pointer (some dp))]).run Tryz.prog W = .ok (.agg #[.pointer (some dp), .slice none 0 0, .int .i64 0]) W := fun W => by kernel_rfl
  clear h
  go_enter Tryz.func19, Tryz.ntmps19
  go_wp2
  generalize w.alloc (.cells #[.pointer (some dp), .slice none 0 0, .int .i64 0] 65) = w0 at H0 ⊢
  go_loopg [4] 5000 (fun k x wr => ∃ v L a, k + a = 5000 ∧ Kept (OpenIn w wr B (.pointer (some dp)) v D L a))
  case atStart => exact ⟨_, [], 0, rfl, H0⟩
  case round =>
    obtain ⟨v, L, a, hk, HI⟩ := hrel
    have c0 := HI.out.at'.c0
    have c1 := HI.out.at'.c1
    have c2 := HI.out.at'.c2
    obtain ⟨A, m, hv⟩ := HI.out.at'.es.len
    rw [List.length_map] at hv
    subst hv
    have HLE := Kept.mk HI.out.le
    have a0 : (0 : Int) ≤ a := by omega
    have a1 : (a : Int) ≤ 4096 := by have := HLE.out; omega
    have l1 : (L.length : Int) ≤ 4096 := by have := HLE.out; omega
    have HJ := Kept.mk (HI.out.on ((Below.refl _ _).drew))
    have HK := Kept.mk hk
    clear hk
    go_wp2
    clear hbd
    go_region_held3 (fun w' => w'.cell? ⟨w.heap.size, 1, none⟩ = some (.slice A L.length m) ∧ w'.cell? ⟨w.heap.size, 2, none⟩ = some (.int .i64 a))
      (first
        | go_keep
        | exact ⟨d1, d2⟩)
      (first
        | (go_at_call 40
           refine (read_any wr.drew B _ D HJ.out.dev a L.length HLE.out.1 (by have := HLE.out; omega)).mono ?_
           rintro e w1 ⟨t, b, rfl, hb, hR⟩
           have H1 := Kept.mk (HJ.out.on hb)
           have d1 := H1.out.at'.c1
           have d2 := H1.out.at'.c2
           clear hb))
    clear c0 c1 c2 d2
    rcases hR.out with ⟨rfl, hrec⟩ | ⟨rfl, hno⟩
    · have HR := Kept.mk hrec
      have hts : t.size ≤ 100000 := by rw [← toL_length]; exact hrec.few
      have HTS := Kept.mk hts
      have hcn : Jn.count t.size ≤ 2000 := by unfold Jn.count; omega
      have hrm : a + 1 + Jn.count t.size ≤ 4096 := by have := hrec.room; rw [toL_length] at this; have := HLE.out; omega
      have hln : L.length + 1 ≤ 4096 := by have := HLE.out; omega
      have HLN := Kept.mk (And.intro hrm hln)
      have HN1 : Kept (((L.map bs).length + 1) * 16 ≤ 140737488355328) := ⟨by rw [List.length_map]; omega⟩
      have HN2 : Kept ((L.map bs).length + 1 ≤ maxLen) := ⟨by rw [List.length_map]; unfold maxLen; omega⟩
      have HE1 : Kept (Own.Es Value.string w1 w.heap.size (.slice A L.length m) (L.map bs)) := ⟨H1.out.at'.es⟩
      clear hR hrec hrm hln
      go_wp2_with (refine Own.wpList_append1 strTy str_one rfl _ _ rfl rfl HE1.out H1.out.below.size t _ rfl rfl HN1.out HN2.out ?_
                   intro v2 w2 hE2 hg2 _
                   obtain ⟨A2, n2, k2, rfl⟩ : ∃ A n k, v2 = Value.slice A n k := by
                     obtain ⟨A, k, e⟩ := hE2.len
                     exact ⟨A, _, k, e⟩
                   obtain ⟨e1, f1, -⟩ := H1.out.at'.still hg2
                   have H2 := Kept.mk (H1.out.at'.push (s := toL t) (by rw [bs_toL]; exact hE2) hg2 HLN.out.2)
                   have HG2 := Kept.mk hg2
                   clear hE2 hg2)
      have e2 := H2.out.c2
      have f2 := H2.out.free 2 (by omega)
      have HB2 : Kept (Below w.heap.size w (w2.setCell ⟨w.heap.size, 1, none⟩ (.slice A2 n2 k2))) := ⟨(H1.out.below.grown HG2.out H1.out.below.size (fun k hk => (H1.out.at'.es.lt k hk).1)).setCell (Nat.le_refl _) _⟩
      clear d1
      generalize w2.setCell ⟨w.heap.size, 1, none⟩ (.slice A2 n2 k2) = w3 at *
      refine wp_region_still_tail 12 (by kernel_rfl) (by kernel_rfl) ?_
      simp only [List.take_succ_cons, List.take_zero, List.drop_succ_cons, List.drop_zero]
      repeat (first | still_step | still_call (count_any t.size _ (by have := HTS.out; omega)))
      refine wpStill_nil ?_
      go_wp2
      go_roundg (gk - (1 + Jn.count t.size))
      case measure => have := HK.out; have := HLN.out; omega
      case rel =>
        have hr := HR.out
        have hn := HLN.out
        have hs := Jn.Recs.snoc H1.out.recs (by rw [Nat.zero_add]; exact hr)
        rw [toL_length] at hs
        have hat := H2.out.setPos (a + 1 + Jn.count t.size) hn.1
        rw [show ((a + 1 + Jn.count t.size : Nat) : Int) = (a : Int) + 1 + (Jn.count t.size : Nat) by omega] at hat
        have hbf := (HB2.out.setCell (p := ⟨w.heap.size, 2, none⟩) (Nat.le_refl _) (.int .i64 ((a : Int) + 1 + (Jn.count t.size : Nat)))).drew
        exact ⟨_, L ++ [toL t], a + 1 + Jn.count t.size, by have := HK.out; omega, ⟨hat.below ((Below.refl _ _).drew), Ref.below HREF.out hbf, hs, hbf⟩⟩
    · go_wp2
      go_ret
      exact ⟨_, L, a, rfl, H1.out.at', ⟨H1.out.recs, hno⟩, H1.out.below⟩
end Jr
end Go.Proofs.YtmkpkmkhnphogaaGreatDoor
