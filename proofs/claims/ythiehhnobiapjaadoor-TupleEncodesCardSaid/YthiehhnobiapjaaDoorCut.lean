/-
  cutItem: the first text of netstrings, and what stands behind it.
-/
import Derived.Test.YthiehhnobiapjaaDoorLen
import Derived.Lib.IndexMore
namespace Go.Proofs.YthiehhnobiapjaaDoor
open Go.RowKit Net
namespace Tup

theorem cut_call (s : ByteArray) (w : World) (hs : s.size ≤ 4000000000) (hK : Kit w) :
    Calls Tryd.prog 19 #[.string s, .string ⟨#[58]⟩] w fun e w' => ∃ (a b : ByteArray) (t : Bool), e = .returned (.tuple #[.string a, .string b, .bool t]) ∧ Below w.heap.size w w' ∧
      Kept (if colon (toL s) < (toL s).length then t = true ∧ toL a = (toL s).take (colon (toL s)) ∧ toL b = (toL s).drop (colon (toL s) + 1) else t = false) := by
  obtain ⟨m, hm⟩ := hK.max
  refine (Tryd.strings_Cut s ⟨#[58]⟩ m w (by omega) hm).mono ?_
  rintro e w' ⟨rfl, n, rfl⟩
  refine ⟨_, _, _, rfl, below_drewN (Below.refl _ _) n, ⟨?_⟩⟩
  have hc : Lib.cut s.data.toList (⟨#[58]⟩ : ByteArray).data.toList = _ := cut_colon (toL s)
  split
  · rename_i h
    rw [if_pos h] at hc
    rw [hc]
    exact ⟨rfl, toL_bs _, toL_bs _⟩
  · rename_i h
    rw [if_neg h] at hc
    rw [hc]

/-- What a round leaves. -/
def CutIs (s : ByteArray) (x r : ByteArray) (b : Bool) : Prop := if b = true then cut (toL s) = some (toL x, toL r) else cut (toL s) = none

theorem len_call (a : ByteArray) (w : World) (hs : a.size ≤ 9223372036854775807) (hK : Kit w) (o : Option Nat) (h : num (toL a) = o) :
    Calls Tryd.prog 20 #[.string a] w fun e w' => (∃ n : Nat, e = .returned (.tuple #[.int .i64 n, .bool o.isSome]) ∧ Below w.heap.size w w' ∧ ∀ m, o = some m → n = m) := by
  subst h
  refine (lengthOf_any a w hs hK).mono ?_
  rintro e w' ⟨n, b, rfl, hb, hn⟩
  have := hn.out
  cases b with
  | false => rw [if_neg (by simp)] at this; rw [this]; exact ⟨n, rfl, hb, fun _ h => by cases h⟩
  | true => rw [if_pos rfl] at this; rw [this]; exact ⟨n, rfl, hb, fun m h => Option.some.inj h⟩

set_option maxRecDepth 100000 in
theorem cutItem_any (s : ByteArray) (w : World) (hs : s.size ≤ 4000000000) (hK : Kit w) :
    Calls Tryd.prog 13 #[.string s] w fun e w' => ∃ (x r : ByteArray) (b : Bool), e = .returned (.tuple #[.string x, .string r, .bool b]) ∧ Below w.heap.size w w' ∧ Kept (CutIs s x r b) := by
  have HK := Kept.mk hK
  have HS := Kept.mk hs
  clear hK hs
  by_cases hc : colon (toL s) < (toL s).length
  · have h1 : ∀ w, Kit w → Calls Tryd.prog 19 #[.string s, .string ⟨#[58]⟩] w fun e w' => ∃ (a b : ByteArray), e = .returned (.tuple #[.string a, .string b, .bool true]) ∧ Below w.heap.size w w' ∧ Kept (toL a = (toL s).take (colon (toL s))) ∧ Kept (toL b = (toL s).drop (colon (toL s) + 1)) := by
      intro w hK
      refine (cut_call s w HS.out hK).mono ?_
      rintro e w' ⟨a, b, t, rfl, hb, ht⟩
      have := ht.out
      rw [if_pos hc] at this
      obtain ⟨rfl, ha, hb2⟩ := this
      exact ⟨a, b, rfl, hb, ⟨ha⟩, ⟨hb2⟩⟩
    have H1 := Kept.mk h1
    clear h1
    have h2 : ∀ (o : Option Nat), num ((toL s).take (colon (toL s))) = o → ∀ a w, Kept (toL a = (toL s).take (colon (toL s))) → Kit w → Calls Tryd.prog 20 #[.string a] w fun e w' => (∃ n : Nat, e = .returned (.tuple #[.int .i64 n, .bool o.isSome]) ∧ Below w.heap.size w w' ∧ ∀ m, o = some m → n = m) := by
      intro o ho a w ha hK
      refine len_call a w ?_ hK o (by rw [ha.out]; exact ho)
      have := congrArg List.length ha.out
      rw [toL_length, List.length_take, toL_length] at this
      have := HS.out
      omega
    cases hn : num ((toL s).take (colon (toL s))) with
    | none =>
      have H2 := Kept.mk (h2 none hn)
      have HF : Kept (cut (toL s) = none) := ⟨cut_num_none hn⟩
      clear h2 hn hc
      go_enter Tryd.func13, Tryd.ntmps13
      go_wp2_with (first
        | (go_at_call 19; refine (H1.out w HK.out).mono ?_; rintro e w1 ⟨a, b, rfl, hb1, ha, hb⟩; have HB1 := Kept.mk hb1; clear hb1)
        | (go_at_call 20; refine (H2.out a w1 ha (HK.out.below HB1.out)).mono ?_; rintro e w2 ⟨n, rfl, hb2, _⟩; have HB2 := Kept.mk hb2; clear hb2; simp only [Option.isSome_none]))
      go_ret3
      exact ⟨_, _, false, rfl, HB1.out.trans (HB2.out.mono HB1.out.size), ⟨by unfold CutIs; rw [if_neg (by simp)]; exact HF.out⟩⟩
    | some m =>
      have H2 : Kept (∀ a w, Kept (toL a = (toL s).take (colon (toL s))) → Kit w → Calls Tryd.prog 20 #[.string a] w fun e w' => e = .returned (.tuple #[.int .i64 m, .bool true]) ∧ Below w.heap.size w w') := ⟨fun a w ha hK => (h2 (some m) hn a w ha hK).mono (by
        rintro e w' ⟨n, rfl, hb, he⟩
        rw [he m rfl]
        exact ⟨rfl, hb⟩)⟩
      have HC := Kept.mk (cut_num_some hn hc)
      have hm9 := (num_some hn).2.1
      clear h2 hn hc
      by_cases hlt : m < ((toL s).drop (colon (toL s) + 1)).length
      · by_cases h44 : ((toL s).drop (colon (toL s) + 1))[m]? = some 44
        · have HT : Kept (cut (toL s) = some (((toL s).drop (colon (toL s) + 1)).take m, ((toL s).drop (colon (toL s) + 1)).drop (m + 1))) := ⟨by rw [HC.out, if_pos ⟨hlt, h44⟩]⟩
          have HB : Kept (∀ b : ByteArray, Kept (toL b = (toL s).drop (colon (toL s) + 1)) → m < b.size ∧ ∀ h : m < b.size, ((b[m]'h).toNat : Int) = 44) := ⟨fun b hb => by
            have e : b.size = ((toL s).drop (colon (toL s) + 1)).length := by rw [← hb.out, toL_length]
            refine ⟨by omega, fun h => ?_⟩
            rw [← hb.out] at h44
            have h3 : (toL b)[m]? = some (b[m]'h) := by
              rw [List.getElem?_eq_getElem (by rw [toL_length]; exact h)]
              rfl
            rw [h3] at h44
            injection h44 with h44
            rw [h44]
            rfl⟩
          clear HC hlt h44
          go_enter Tryd.func13, Tryd.ntmps13
          go_wp2_with (first
            | (go_at_call 19; refine (H1.out w HK.out).mono ?_; rintro e w1 ⟨a, b, rfl, hb1, ha, hb⟩; have HB1 := Kept.mk hb1; clear hb1; obtain ⟨hz, h44⟩ := HB.out b hb; have h44 := h44 hz; have z : (m : Int) < b.size := by omega)
            | (go_at_call 20; refine (H2.out a w1 ha (HK.out.below HB1.out)).mono ?_; rintro e w2 ⟨rfl, hb2⟩; have HB2 := Kept.mk hb2; clear hb2))
          have d0 : (0 : Int) ≤ m := by omega
          have d1 : (m : Int) ≤ b.size := by omega
          have e1 : IntKind.i64.wrap ((m : Int) + 1) = (m : Int) + 1 := IntWalk.i64_in _ (by omega)
          have d2 : (0 : Int) ≤ (m : Int) + 1 := by omega
          have d3 : (m : Int) + 1 ≤ b.size := by omega
          have t1 : (m : Int).toNat = m := by omega
          have t2 : ((m : Int) + 1).toNat = m + 1 := by omega
          have hto : ∀ W : World, (Instr.slice 9 (.string b) none (some (.int .i64 (m : Int))) none).run Tryd.prog W = .ok (.string (b.extract 0 m)) W := fun W => by
            rw [run_slice_string_to_if W 9 b .i64 _ Tryd.underlying9, if_pos ⟨d0, d1⟩, t1]
          have hfrom : ∀ W : World, (Instr.slice 9 (.string b) (some (.int .i64 ((m : Int) + 1))) none none).run Tryd.prog W = .ok (.string (b.extract (m + 1) b.size)) W := fun W => by
            rw [run_slice_string_from_if W 9 b .i64 _ Tryd.underlying9, if_pos ⟨d2, d3⟩, t2]
          refine wp_region_still_lit (by kernel_rfl) (by kernel_rfl) ?_
          repeat (first | still_step)
          refine wpStill_nil ?_
          go_wp2
          go_ret3
          exact ⟨_, _, true, rfl, (HB1.out.trans (HB2.out.mono HB1.out.size)).drew, ⟨by unfold CutIs; rw [if_pos rfl, toL_to, toL_from, hb.out, HT.out]⟩⟩
        · have HF : Kept (cut (toL s) = none) := ⟨by rw [HC.out, if_neg (fun h => h44 h.2)]⟩
          have HB : Kept (∀ b : ByteArray, Kept (toL b = (toL s).drop (colon (toL s) + 1)) → m < b.size ∧ ∀ h : m < b.size, (((b[m]'h).toNat : Int) != 44) = true) := ⟨fun b hb => by
            have e : b.size = ((toL s).drop (colon (toL s) + 1)).length := by rw [← hb.out, toL_length]
            refine ⟨by omega, fun h => bne_iff_ne.2 fun he => h44 ?_⟩
            rw [← hb.out, List.getElem?_eq_getElem (by rw [toL_length]; exact h)]
            have : (toL b)[m]'(by rw [toL_length]; exact h) = b[m]'h := rfl
            rw [this]
            congr 1
            exact UInt8.toNat_inj.1 (show _ = 44 by omega)⟩
          clear HC hlt h44
          go_enter Tryd.func13, Tryd.ntmps13
          go_wp2_with (first
            | (go_at_call 19; refine (H1.out w HK.out).mono ?_; rintro e w1 ⟨a, b, rfl, hb1, ha, hb⟩; have HB1 := Kept.mk hb1; clear hb1; obtain ⟨hz, h44⟩ := HB.out b hb; have h44 := h44 hz; have z : (m : Int) < b.size := by omega)
            | (go_at_call 20; refine (H2.out a w1 ha (HK.out.below HB1.out)).mono ?_; rintro e w2 ⟨rfl, hb2⟩; have HB2 := Kept.mk hb2; clear hb2))
          go_ret3
          exact ⟨_, _, false, rfl, HB1.out.trans (HB2.out.mono HB1.out.size), ⟨by unfold CutIs; rw [if_neg (by simp)]; exact HF.out⟩⟩
      · have HF : Kept (cut (toL s) = none) := ⟨by rw [HC.out, if_neg (fun h => hlt h.1)]⟩
        have HB : Kept (∀ b : ByteArray, Kept (toL b = (toL s).drop (colon (toL s) + 1)) → b.size ≤ m) := ⟨fun b hb => by
          have e : b.size = ((toL s).drop (colon (toL s) + 1)).length := by rw [← hb.out, toL_length]
          omega⟩
        clear HC hlt
        go_enter Tryd.func13, Tryd.ntmps13
        go_wp2_with (first
          | (go_at_call 19; refine (H1.out w HK.out).mono ?_; rintro e w1 ⟨a, b, rfl, hb1, ha, hb⟩; have HB1 := Kept.mk hb1; clear hb1; have hz := HB.out b hb; have z : (b.size : Int) ≤ m := by omega)
          | (go_at_call 20; refine (H2.out a w1 ha (HK.out.below HB1.out)).mono ?_; rintro e w2 ⟨rfl, hb2⟩; have HB2 := Kept.mk hb2; clear hb2))
        go_ret3
        exact ⟨_, _, false, rfl, HB1.out.trans (HB2.out.mono HB1.out.size), ⟨by unfold CutIs; rw [if_neg (by simp)]; exact HF.out⟩⟩
  · have h1 : ∀ w, Kit w → Calls Tryd.prog 19 #[.string s, .string ⟨#[58]⟩] w fun e w' => ∃ (a b : ByteArray), e = .returned (.tuple #[.string a, .string b, .bool false]) ∧ Below w.heap.size w w' := by
      intro w hK
      refine (cut_call s w HS.out hK).mono ?_
      rintro e w' ⟨a, b, t, rfl, hb, ht⟩
      have := ht.out
      rw [if_neg hc] at this
      subst this
      exact ⟨a, b, rfl, hb⟩
    have H1 := Kept.mk h1
    have HF : Kept (cut (toL s) = none) := ⟨cut_nocolon hc⟩
    clear h1 hc
    go_enter Tryd.func13, Tryd.ntmps13
    go_wp2_with (go_at_call 19; refine (H1.out w HK.out).mono ?_; rintro e w1 ⟨a, b, rfl, hb1⟩)
    go_ret3
    exact ⟨_, _, false, rfl, hb1, ⟨by unfold CutIs; rw [if_neg (by simp)]; exact HF.out⟩⟩
end Tup
end Go.Proofs.YthiehhnobiapjaaDoor
