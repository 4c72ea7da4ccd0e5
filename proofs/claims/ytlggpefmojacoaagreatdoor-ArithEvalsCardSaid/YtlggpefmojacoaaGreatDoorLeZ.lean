/-
 PROVED: what any text is worth, and the variables behind it, is what the document says, or it is refused (the law ArithEvals answers true, and leaves its arguments as they were).
  Conditions: the tables that it reads lie at the start as the program's text lays them (the card ties this).
-/
import Derived.Test.YtlggpefmojacoaaGreatDoorCards
import Derived.Test.YtlggpefmojacoaaGreatDoorTie
import Derived.Test.YtlggpefmojacoaaGreatDoorLdB
import Derived.Carry
import Derived.ChangeMaps5
import Derived.ChangeOld
import Derived.ChangeSame
import Derived.ChangeShapes
import Derived.Deep.DeepHandedRow
import Derived.Deep.RegionHeld3
import Derived.Deep.RegionLaw
import Derived.Deep.Slices
import Derived.LaidLaws
import Derived.Lib.LaidTab
import Derived.OpenShut
import Derived.ProofKit
import Derived.SizedLaws
import Derived.SliceStrings
import Derived.Stop.LaidErr
section
namespace Go.Proofs.YtlggpefmojacoaaGreatDoor
open Go.RowKit Tx
namespace Va
theorem put_len (l : List Vr) (n : ByteArray) (m : List Vr) : (put l n m).length + (if found l n then 1 else 0) = l.length + m.length := by
 have h := congrArg List.length (split3 l n)
 unfold put
 simp only [List.length_append] at h ⊢
 have : (get? l n).toList.length = if found l n then 1 else 0 := by
   unfold found
   cases get? l n <;> rfl
 omega
set_option maxHeartbeats 2000000 in
set_option maxRecDepth 100000 in
theorem refMark_any (l : List Vr) (A : Option Addr) (ln k : Nat) (n : ByteArray) (ex ro : Bool) (w : World) (hV : VS w A k l) (hn : l.length = ln) (hl : ln ≤ 100000) (hns : n.size ≤ 1000000) :
   Calls Tryz.prog 24 #[.slice A ln k, .string n, .bool ex, .bool ro] w (SEnd w (mark l n ex ro)) := by
 have HV := Kept.mk hV
 have HN := Kept.mk hn
 clear hV hn
 by_cases hi : isName n = true
 · have HI := Kept.mk hi
   obtain ⟨b, hb⟩ : ∃ b, found l n = b := ⟨_, rfl⟩
   obtain ⟨v, hv⟩ : ∃ v, getD l n = v := ⟨_, rfl⟩
   have HB := Kept.mk hb
   have HD := Kept.mk hv
   have HS : Kept (mark l n ex ro = .ok (put l n [⟨n, v.value, v.ex || ex, v.ro || ro⟩])) := ⟨by unfold mark; rw [hi, hv]; rfl⟩
   rw [HS.out]
   clear hi hb hv HS
   obtain ⟨vn, vv, ve, vr⟩ := v
   cases ve <;> cases vr
   · simp only [Bool.false_or]
     have T1 : Kept True := ⟨trivial⟩
     go_enter Tryz.func24, Tryz.ntmps24
     go_wp2_with (first
       | (go_at_call 34; refine (isName_any n w hns true HI.out).mono ?_; rintro e w0 ⟨rfl, rfl⟩)
       | (go_at_call 35; refine (refGet_any l A ln k n w HV.out HN.out hl _ b HD.out HB.out).mono ?_; rintro e w1 ⟨rfl, hb1⟩
          have HX := Kept.mk (VX.zero hb1); clear hb1)
       | (have := T1; refine wpList_store_row rfl 31 _ _ rfl _ _ rfl rfl 31 _ HX.out.r (by kernel_rfl) rfl (by simp [Value.oneCell']) ?_
          clear T1
          have HO := Kept.mk (HX.out.row ⟨vn, vv, false, false⟩)
          generalize World.setRow _ _ _ = W at HO ⊢
          have c3 := HO.out.c3
          have c2 := HO.out.c2
          have c0 := HO.out.c0
          have f0 := HO.out.f0
          have HO2 : Kept (VX w (W.setCell ⟨w1.heap.size, 0, none⟩ (.string n)) w1.heap.size ⟨n, vv, false, false⟩) := ⟨HO.out.set rfl⟩
          have d2 := HO2.out.c2
          have f2 := HO2.out.f2
          have HO3 : Kept (VX w ((W.setCell ⟨w1.heap.size, 0, none⟩ (.string n)).setCell ⟨w1.heap.size, 2, none⟩ (.bool ex)) w1.heap.size ⟨n, vv, ex, false⟩) := ⟨HO2.out.set rfl⟩
          have d3 := HO3.out.c3
          have f3 := HO3.out.f3
          have HO4 : Kept (VX w (((W.setCell ⟨w1.heap.size, 0, none⟩ (.string n)).setCell ⟨w1.heap.size, 2, none⟩ (.bool ex)).setCell ⟨w1.heap.size, 3, none⟩ (.bool ro)) w1.heap.size ⟨n, vv, ex, ro⟩) := ⟨HO3.out.set rfl⟩)
       | (have := HO4; refine wpList_load_row rfl 31 _ rfl w1.heap.size rfl 31 #[.string n, .string vv, .bool ex, .bool ro] (0, 0) _ HO4.out.r Tryz.underlying31 rfl (by kernel_rfl) ?_)
       | (go_at_call 36; refine (refPut_any l A ln k ⟨n, vv, ex, ro⟩ _ (HV.out.below HO4.out.bl) HN.out hl).mono ?_; rintro e w4 ⟨A2, n2, k2, rfl, hO, hn2, hb4⟩
          have HN2 := Kept.mk hn2
          have HB4 := Kept.mk (HO4.out.bl.trans (hb4.mono HO4.out.bl.size))
          clear hn2 hb4))
     go_ret2
     exact ⟨_, _, _, rfl, HN2.out, ⟨hO.out.vs.1⟩, HB4.out⟩
   · simp only [Bool.false_or, Bool.true_or]
     have T1 : Kept True := ⟨trivial⟩
     go_enter Tryz.func24, Tryz.ntmps24
     go_wp2_with (first
       | (go_at_call 34; refine (isName_any n w hns true HI.out).mono ?_; rintro e w0 ⟨rfl, rfl⟩)
       | (go_at_call 35; refine (refGet_any l A ln k n w HV.out HN.out hl _ b HD.out HB.out).mono ?_; rintro e w1 ⟨rfl, hb1⟩
          have HX := Kept.mk (VX.zero hb1); clear hb1)
       | (have := T1; refine wpList_store_row rfl 31 _ _ rfl _ _ rfl rfl 31 _ HX.out.r (by kernel_rfl) rfl (by simp [Value.oneCell']) ?_
          clear T1
          have HO := Kept.mk (HX.out.row ⟨vn, vv, false, true⟩)
          generalize World.setRow _ _ _ = W at HO ⊢
          have c3 := HO.out.c3
          have c2 := HO.out.c2
          have c0 := HO.out.c0
          have f0 := HO.out.f0
          have HO2 : Kept (VX w (W.setCell ⟨w1.heap.size, 0, none⟩ (.string n)) w1.heap.size ⟨n, vv, false, true⟩) := ⟨HO.out.set rfl⟩
          have d2 := HO2.out.c2
          have f2 := HO2.out.f2
          have HO3 : Kept (VX w ((W.setCell ⟨w1.heap.size, 0, none⟩ (.string n)).setCell ⟨w1.heap.size, 2, none⟩ (.bool ex)) w1.heap.size ⟨n, vv, ex, true⟩) := ⟨HO2.out.set rfl⟩
          have d3 := HO3.out.c3
          have f3 := HO3.out.f3
          have HO4 : Kept (VX w (((W.setCell ⟨w1.heap.size, 0, none⟩ (.string n)).setCell ⟨w1.heap.size, 2, none⟩ (.bool ex)).setCell ⟨w1.heap.size, 3, none⟩ (.bool true)) w1.heap.size ⟨n, vv, ex, true⟩) := ⟨HO3.out.set rfl⟩)
       | (have := HO4; refine wpList_load_row rfl 31 _ rfl w1.heap.size rfl 31 #[.string n, .string vv, .bool ex, .bool true] (0, 0) _ HO4.out.r Tryz.underlying31 rfl (by kernel_rfl) ?_)
       | (go_at_call 36; refine (refPut_any l A ln k ⟨n, vv, ex, true⟩ _ (HV.out.below HO4.out.bl) HN.out hl).mono ?_; rintro e w4 ⟨A2, n2, k2, rfl, hO, hn2, hb4⟩
          have HN2 := Kept.mk hn2
          have HB4 := Kept.mk (HO4.out.bl.trans (hb4.mono HO4.out.bl.size))
          clear hn2 hb4))
     go_ret2
     exact ⟨_, _, _, rfl, HN2.out, ⟨hO.out.vs.1⟩, HB4.out⟩
   · simp only [Bool.false_or, Bool.true_or]
     have T1 : Kept True := ⟨trivial⟩
     go_enter Tryz.func24, Tryz.ntmps24
     go_wp2_with (first
       | (go_at_call 34; refine (isName_any n w hns true HI.out).mono ?_; rintro e w0 ⟨rfl, rfl⟩)
       | (go_at_call 35; refine (refGet_any l A ln k n w HV.out HN.out hl _ b HD.out HB.out).mono ?_; rintro e w1 ⟨rfl, hb1⟩
          have HX := Kept.mk (VX.zero hb1); clear hb1)
       | (have := T1; refine wpList_store_row rfl 31 _ _ rfl _ _ rfl rfl 31 _ HX.out.r (by kernel_rfl) rfl (by simp [Value.oneCell']) ?_
          clear T1
          have HO := Kept.mk (HX.out.row ⟨vn, vv, true, false⟩)
          generalize World.setRow _ _ _ = W at HO ⊢
          have c3 := HO.out.c3
          have c2 := HO.out.c2
          have c0 := HO.out.c0
          have f0 := HO.out.f0
          have HO2 : Kept (VX w (W.setCell ⟨w1.heap.size, 0, none⟩ (.string n)) w1.heap.size ⟨n, vv, true, false⟩) := ⟨HO.out.set rfl⟩
          have d2 := HO2.out.c2
          have f2 := HO2.out.f2
          have HO3 : Kept (VX w ((W.setCell ⟨w1.heap.size, 0, none⟩ (.string n)).setCell ⟨w1.heap.size, 2, none⟩ (.bool true)) w1.heap.size ⟨n, vv, true, false⟩) := ⟨HO2.out.set rfl⟩
          have d3 := HO3.out.c3
          have f3 := HO3.out.f3
          have HO4 : Kept (VX w (((W.setCell ⟨w1.heap.size, 0, none⟩ (.string n)).setCell ⟨w1.heap.size, 2, none⟩ (.bool true)).setCell ⟨w1.heap.size, 3, none⟩ (.bool ro)) w1.heap.size ⟨n, vv, true, ro⟩) := ⟨HO3.out.set rfl⟩)
       | (have := HO4; refine wpList_load_row rfl 31 _ rfl w1.heap.size rfl 31 #[.string n, .string vv, .bool true, .bool ro] (0, 0) _ HO4.out.r Tryz.underlying31 rfl (by kernel_rfl) ?_)
       | (go_at_call 36; refine (refPut_any l A ln k ⟨n, vv, true, ro⟩ _ (HV.out.below HO4.out.bl) HN.out hl).mono ?_; rintro e w4 ⟨A2, n2, k2, rfl, hO, hn2, hb4⟩
          have HN2 := Kept.mk hn2
          have HB4 := Kept.mk (HO4.out.bl.trans (hb4.mono HO4.out.bl.size))
          clear hn2 hb4))
     go_ret2
     exact ⟨_, _, _, rfl, HN2.out, ⟨hO.out.vs.1⟩, HB4.out⟩
   · simp only [Bool.true_or]
     have T1 : Kept True := ⟨trivial⟩
     go_enter Tryz.func24, Tryz.ntmps24
     go_wp2_with (first
       | (go_at_call 34; refine (isName_any n w hns true HI.out).mono ?_; rintro e w0 ⟨rfl, rfl⟩)
       | (go_at_call 35; refine (refGet_any l A ln k n w HV.out HN.out hl _ b HD.out HB.out).mono ?_; rintro e w1 ⟨rfl, hb1⟩
          have HX := Kept.mk (VX.zero hb1); clear hb1)
       | (have := T1; refine wpList_store_row rfl 31 _ _ rfl _ _ rfl rfl 31 _ HX.out.r (by kernel_rfl) rfl (by simp [Value.oneCell']) ?_
          clear T1
          have HO := Kept.mk (HX.out.row ⟨vn, vv, true, true⟩)
          generalize World.setRow _ _ _ = W at HO ⊢
          have c3 := HO.out.c3
          have c2 := HO.out.c2
          have c0 := HO.out.c0
          have f0 := HO.out.f0
          have HO2 : Kept (VX w (W.setCell ⟨w1.heap.size, 0, none⟩ (.string n)) w1.heap.size ⟨n, vv, true, true⟩) := ⟨HO.out.set rfl⟩
          have d2 := HO2.out.c2
          have f2 := HO2.out.f2
          have HO3 : Kept (VX w ((W.setCell ⟨w1.heap.size, 0, none⟩ (.string n)).setCell ⟨w1.heap.size, 2, none⟩ (.bool true)) w1.heap.size ⟨n, vv, true, true⟩) := ⟨HO2.out.set rfl⟩
          have d3 := HO3.out.c3
          have f3 := HO3.out.f3
          have HO4 : Kept (VX w (((W.setCell ⟨w1.heap.size, 0, none⟩ (.string n)).setCell ⟨w1.heap.size, 2, none⟩ (.bool true)).setCell ⟨w1.heap.size, 3, none⟩ (.bool true)) w1.heap.size ⟨n, vv, true, true⟩) := ⟨HO3.out.set rfl⟩)
       | (have := HO4; refine wpList_load_row rfl 31 _ rfl w1.heap.size rfl 31 #[.string n, .string vv, .bool true, .bool true] (0, 0) _ HO4.out.r Tryz.underlying31 rfl (by kernel_rfl) ?_)
       | (go_at_call 36; refine (refPut_any l A ln k ⟨n, vv, true, true⟩ _ (HV.out.below HO4.out.bl) HN.out hl).mono ?_; rintro e w4 ⟨A2, n2, k2, rfl, hO, hn2, hb4⟩
          have HN2 := Kept.mk hn2
          have HB4 := Kept.mk (HO4.out.bl.trans (hb4.mono HO4.out.bl.size))
          clear hn2 hb4))
     go_ret2
     exact ⟨_, _, _, rfl, HN2.out, ⟨hO.out.vs.1⟩, HB4.out⟩
 · have hi : isName n = false := by simpa using hi
   have HI := Kept.mk hi
   have HS : Kept (mark l n ex ro = .error 1) := ⟨by unfold mark; rw [hi]; rfl⟩
   rw [HS.out]
   clear hi HS
   go_enter Tryz.func24, Tryz.ntmps24
   go_wp2_with (go_at_call 34; refine (isName_any n w hns false HI.out).mono ?_; rintro e w0 ⟨rfl, rfl⟩)
   go_ret2
   exact ⟨_, _, _, rfl, rfl, ⟨VS.empty _⟩, Below.refl _ _⟩
def Few (l : List Vr) : Prop := ∀ v ∈ l, v.name.size ≤ 281474976710656 ∧ v.value.size ≤ 281474976710656
structure Good (l : List Vr) : Prop where
 rise : Sorted l
 names : ∀ v ∈ l, isName v.name = true
 small : ∀ v ∈ l, v.name.size ≤ 2000000
theorem SEnd.ok {w w' : World} {e : Ending} {m : List Vr} {mn : Nat} (h : SEnd w (.ok m) e w') (hm : m.length = mn) : ∃ A k, e = .returned (.tuple #[.slice A mn k, .int .i64 0]) ∧ Kept (VS w' A k m) ∧ Below w.heap.size w w' := by
 obtain ⟨A, n, k, he, hn, hV, hb⟩ := h
 have : n = mn := hn.trans hm
 subst this
 exact ⟨A, k, he, hV, hb⟩
theorem SEnd.no {w w' : World} {e : Ending} {c : Int} (h : SEnd w (.error c) e w') : ∃ A k, e = .returned (.tuple #[.slice A 0 k, .int .i64 c]) ∧ Kept (VS w' A k []) ∧ Below w.heap.size w w' := by
 obtain ⟨A, n, k, he, hn, hV, hb⟩ := h
 have : n = 0 := hn
 subst this
 exact ⟨A, k, he, hV, hb⟩
theorem set_err {l : List Vr} {n x : ByteArray} {c : Int} (h : set l n x = .error c) : c = 1 ∨ c = 150 := by
 unfold set at h
 split at h
 · cases h; exact .inl rfl
 · split at h
   · cases h; exact .inr rfl
   · cases h
structure Fine (l : List Vr) : Prop where
 good : Good l
 few : Few l
theorem Fine.nil : Fine [] := ⟨⟨List.Pairwise.nil, fun _ h => (by cases h), fun _ h => (by cases h)⟩, fun _ h => (by cases h)⟩
theorem put_mem {l : List Vr} {n : ByteArray} {m : List Vr} {v : Vr} (h : v ∈ put l n m) : v ∈ l ∨ v ∈ m := by
 unfold put before behind at h
 rcases List.mem_append.1 h with h | h
 · rcases List.mem_append.1 h with h | h
   · exact .inl (List.mem_of_mem_take h)
   · exact .inr h
 · exact .inl (List.mem_of_mem_drop h)
theorem Fine.put {l : List Vr} {n : ByteArray} {m : List Vr} (h : Fine l) (hm : m = [] ∨ ∃ v, m = [v] ∧ v.name = n) (hi : m ≠ [] → isName n = true) (hn : n.size ≤ 1400000) (hv : ∀ v ∈ m, v.value.size ≤ 281474976710656) : Fine (put l n m) := by
 have hname : ∀ v ∈ m, v.name = n := by
   rcases hm with rfl | ⟨u, rfl, rfl⟩
   · intro v hv; cases hv
   · intro v hv; rw [List.mem_singleton.1 hv]
 refine ⟨⟨put_sorted h.good.rise hm, fun v hv2 => ?_, fun v hv2 => ?_⟩, fun v hv2 => ?_⟩
 · rcases put_mem hv2 with h2 | h2
   · exact h.good.names v h2
   · rw [hname v h2]; exact hi (fun e => by rw [e] at h2; cases h2)
 · rcases put_mem hv2 with h2 | h2
   · exact h.good.small v h2
   · rw [hname v h2]; omega
 · rcases put_mem hv2 with h2 | h2
   · exact h.few v h2
   · exact ⟨by rw [hname v h2]; omega, hv v h2⟩
theorem getD_few {l : List Vr} (h : Fine l) (n : ByteArray) : (getD l n).value.size ≤ 281474976710656 := by
 cases e : found l n with
 | true => rw [getD_at e]; exact (h.few _ (List.getElem_mem _)).2
 | false => rw [getD_no e]; show (0 : Nat) ≤ _; omega
theorem fine_set {l m : List Vr} {n x : ByteArray} (h : Fine l) (hr : set l n x = .ok m) (hn : n.size ≤ 1400000) (hx : x.size ≤ 281474976710656) : Fine m := by
 unfold set at hr
 split at hr
 · cases hr
 · rename_i hi
   split at hr
   · cases hr
   · cases hr
     exact h.put (.inr ⟨_, rfl, rfl⟩) (fun _ => by simpa using hi) hn (fun v hv => by rw [List.mem_singleton.1 hv]; exact hx)
theorem fine_mark {l m : List Vr} {n : ByteArray} {a b : Bool} (h : Fine l) (hr : mark l n a b = .ok m) (hn : n.size ≤ 1400000) : Fine m := by
 unfold mark at hr
 split at hr
 · cases hr
 · rename_i hi
   cases hr
   exact h.put (.inr ⟨_, rfl, rfl⟩) (fun _ => by simpa using hi) hn (fun v hv => by rw [List.mem_singleton.1 hv]; exact getD_few h n)
theorem put_le (l : List Vr) (n : ByteArray) (m : List Vr) : (put l n m).length ≤ l.length + m.length := by
 have := put_len l n m; omega
theorem set_le {l m : List Vr} {n x : ByteArray} (hr : set l n x = .ok m) : m.length ≤ l.length + 1 := by
 unfold set at hr
 split at hr
 · cases hr
 · split at hr
   · cases hr
   · cases hr; exact put_le ..
theorem mark_le {l m : List Vr} {n : ByteArray} {a b : Bool} (hr : mark l n a b = .ok m) : m.length ≤ l.length + 1 := by
 unfold mark at hr
 split at hr
 · cases hr
 · cases hr; exact put_le ..
def l1 : List Vr := [⟨⟨#[97]⟩, ⟨#[49]⟩, false, false⟩]
structure Do where
 what : Nat
 name : Nat
 raw : ByteArray
 value : ByteArray
 a : Bool
 b : Bool
structure Do.ok (d : Do) : Prop where
 what : d.what < 256
 name : d.name < 256
 raw : d.raw.size ≤ 281474976710656
 value : d.value.size ≤ 281474976710656
def names : List ByteArray := [⟨#[97]⟩, ⟨#[98]⟩, ⟨#[120, 49]⟩, ⟨#[95]⟩, ⟨#[66]⟩, ⟨#[49]⟩, ⟨#[]⟩, ⟨#[97, 45, 98]⟩]
def few (n : Nat) : ByteArray := names.getD (n % 8) ⟨#[]⟩
theorem u8_i64 (n : Nat) (h : n < 256) : IntKind.i64.wrap (n : Int) = (n : Int) := IntWalk.i64_in _ (by omega)
structure BX (w w1 : World) (d : Do) : Prop where
 r : w1.heap[w.heap.size]? = some (.cells #[.int .u8 (d.what : Int), .int .u8 (d.name : Int), .string d.raw, .string d.value, .bool d.a, .bool d.b] 51 (0, 0))
 bl : Below w.heap.size w w1
theorem BX.below {w w1 w2 : World} {d : Do} (h : BX w w1 d) (hb : Below w1.heap.size w1 w2) : BX w w2 d := ⟨(hb.block _ (Array.getElem?_eq_some_iff.1 h.r).1).trans h.r, h.bl.trans (hb.mono h.bl.size)⟩
theorem BX.c0 {w w1 : World} {d : Do} (h : BX w w1 d) : w1.cell? ⟨w.heap.size, 0, none⟩ = some (.int .u8 (d.what : Int)) := cell_of_row _ _ 0 _ _ _ h.r
theorem BX.c3 {w w1 : World} {d : Do} (h : BX w w1 d) : w1.cell? ⟨w.heap.size, 3, none⟩ = some (.string d.value) := cell_of_row _ _ 3 _ _ _ h.r
theorem BX.c4 {w w1 : World} {d : Do} (h : BX w w1 d) : w1.cell? ⟨w.heap.size, 4, none⟩ = some (.bool d.a) := cell_of_row _ _ 4 _ _ _ h.r
theorem BX.c5 {w w1 : World} {d : Do} (h : BX w w1 d) : w1.cell? ⟨w.heap.size, 5, none⟩ = some (.bool d.b) := cell_of_row _ _ 5 _ _ _ h.r
structure OneDo (w : World) (g off : Nat) (d : Do) : Prop where
 ok : d.ok
 c0 : w.cell? ⟨g, off, none⟩ = some (.int .u8 (d.what : Int))
 c1 : w.cell? ⟨g, off + 1, none⟩ = some (.int .u8 (d.name : Int))
 c2 : w.cell? ⟨g, off + 2, none⟩ = some (.string d.raw)
 c3 : w.cell? ⟨g, off + 3, none⟩ = some (.string d.value)
 c4 : w.cell? ⟨g, off + 4, none⟩ = some (.bool d.a)
 c5 : w.cell? ⟨g, off + 5, none⟩ = some (.bool d.b)
theorem OneDo.keep {w w' : World} {g off : Nat} {d : Do} (h : OneDo w g off d) (hg : g < w.heap.size) (hb : Below w.heap.size w w') : OneDo w' g off d :=
 ⟨h.ok, (hb.cell (p := ⟨g, off, none⟩) hg).trans h.c0, (hb.cell (p := ⟨g, off + 1, none⟩) hg).trans h.c1, (hb.cell (p := ⟨g, off + 2, none⟩) hg).trans h.c2, (hb.cell (p := ⟨g, off + 3, none⟩) hg).trans h.c3, (hb.cell (p := ⟨g, off + 4, none⟩) hg).trans h.c4, (hb.cell (p := ⟨g, off + 5, none⟩) hg).trans h.c5⟩
def DS (w : World) (A : Option Addr) (n : Nat) : Prop := ∀ i, i < n → ∃ g off d, A = some ⟨g, off, none⟩ ∧ g < w.heap.size ∧ OneDo w g (off + i * 6) d
theorem DS.below {w w' : World} {A : Option Addr} {n : Nat} (h : DS w A n) (hb : Below w.heap.size w w') : DS w' A n := fun i hi => by
 obtain ⟨g, off, d, hA, hg, ho⟩ := h i hi
 exact ⟨g, off, d, hA, Nat.lt_of_lt_of_le hg hb.size, ho.keep hg hb⟩
def sixes : List ByteArray := [⟨#[97]⟩, ⟨#[98]⟩, ⟨#[99]⟩, ⟨#[73, 70, 83]⟩, ⟨#[120]⟩, ⟨#[121]⟩]
def six (n : Nat) : ByteArray := sixes.getD (n % 6) ⟨#[]⟩
theorem six_small (n : Nat) : (six n).size ≤ 3 := by
 have : ∀ j : Fin 6, (sixes.getD j.val ⟨#[]⟩).size ≤ 3 := by decide +kernel
 exact this ⟨n % 6, Nat.mod_lt _ (by omega)⟩
theorem six_name (n : Nat) : isName (six n) = true := by
 have : ∀ j : Fin 6, isName (sixes.getD j.val ⟨#[]⟩) = true := by decide +kernel
 exact this ⟨n % 6, Nat.mod_lt _ (by omega)⟩
theorem mark_six (l : List Vr) (n : Nat) (a b : Bool) : ∃ m, mark l (six n) a b = .ok m := by
 unfold mark
 rw [six_name n]
 exact ⟨_, rfl⟩
set_option maxHeartbeats 4000000 in
set_option maxRecDepth 100000 in
theorem made_any (A : Option Addr) (n k : Nat) (w : World) (hD : DS w A n) (hn : n ≤ 4611686018427387904) :
   Calls Tryz.prog 13 #[.slice A n k] w fun e w' => ∃ B m q l, e = .returned (.slice B m q) ∧ Kept (l.length = m) ∧ m ≤ 30 ∧ Kept (VS w' B q l) ∧ Kept (Fine l) ∧ Below w.heap.size w w' := by
 have HD := Kept.mk hD
 clear hD
 go_enter Tryz.func13, Tryz.ntmps13
 go_wp2_with fail
 go_loopw [3, 4] (fun v i wr => ∃ (j m q : Nat) (B : Option Addr) (l : List Vr), j ≤ n ∧ j ≤ 12 ∧ m ≤ 2 * j ∧ i = .int .i64 (j : Int) ∧ v = .slice B m q ∧ Kept (VS wr B q l) ∧ Kept (l.length = m) ∧ Kept (Fine l) ∧ Kept (Below w.heap.size w wr)) (fun _ i _ => n - (intOf i).toNat)
 case atStart => exact ⟨0, 0, 0, none, [], by omega, by omega, by omega, rfl, rfl, ⟨VS.empty _⟩, ⟨rfl⟩, ⟨Fine.nil⟩, ⟨Below.refl _ _⟩⟩
 case round =>
   obtain ⟨j, m, q, B, l, hj, hj20, hmj, rfl, rfl, hV, hL, hF, hB⟩ := hrel
   have j0 : (0 : Int) ≤ (j : Int) := by omega
   by_cases hgo : j < n ∧ j < 12
   · obtain ⟨g, off, d, rfl, hg, ho0⟩ := HD.out j hgo.1
     have HO := Kept.mk ho0
     have HGg := Kept.mk hg
     have ho := ho0.keep hg hB.out
     have j1 : (j : Int) < (n : Int) := by omega
     have j2 : (j : Int) < 12 := by omega
     have hok := ho.ok
     obtain ⟨s, hs⟩ : ∃ s, six d.name = s := ⟨_, rfl⟩
     have HSs : Kept (s.size ≤ 3) := ⟨by rw [← hs]; exact six_small _⟩
     have HSn : Kept (∀ l a b, ∃ m, mark l s a b = .ok m) := ⟨fun l a b => by rw [← hs]; exact mark_six l _ a b⟩
     have q1 := u8_i64 d.name hok.name
     have q2 : (d.name : Int).tmod 6 = ((d.name % 6 : Nat) : Int) := by rw [Int.tmod_eq_emod_of_nonneg (by omega)]; omega
     have hm6 : d.name % 6 < 6 := Nat.mod_lt _ (by omega)
     have hA := Own.At.fresh (c := Value.string) wr _ 9 sixes rfl
     have hc := hA.cell (d.name % 6) (by simpa [sixes] using hm6)
     rw [Nat.zero_add] at hc
     have hp : Kept (sixes[d.name % 6]'(by simpa [sixes] using hm6) = s) := ⟨by rw [← hs]; unfold six; rw [List.getD_eq_getElem?_getD, List.getElem?_eq_getElem (by simpa [sixes] using hm6), Option.getD_some]⟩
     rw [hp.out] at hc
     simp only [sixes, List.map_cons, List.map_nil, List.toArray] at hc
     have z0 : (0 : Int) ≤ ((d.name % 6 : Nat) : Int) := by omega
     have z1 : ((d.name % 6 : Nat) : Int) < 6 := by omega
     have HVz := Kept.mk hok.value
     -- the world behind the literal
     have HB1 : Kept (Below wr.heap.size wr (wr.alloc (.cells #[.string ⟨#[97]⟩, .string ⟨#[98]⟩, .string ⟨#[99]⟩, .string ⟨#[73, 70, 83]⟩, .string ⟨#[120]⟩, .string ⟨#[121]⟩] 9))) := ⟨(Below.refl _ _).alloc (Nat.le_refl _) _⟩
     have e1 := (ho0.keep hg (hB.out.trans (HB1.out.mono hB.out.size))).c1
     have e3 := (ho0.keep hg (hB.out.trans (HB1.out.mono hB.out.size))).c3
     clear ho ho0 hg hgo hok hA hs hp
     have hm29 : m ≤ 28 := by omega
     cases hr : set l s d.value with
     | ok l1 =>
       have HR := Kept.mk hr
       have HF1 := Kept.mk (fine_set hF.out hr (Nat.le_trans HSs.out (by omega)) HVz.out)
       have hle1 := set_le hr
       rw [hL.out] at hle1
       obtain ⟨m1, hm1⟩ : ∃ m1, l1.length = m1 := ⟨_, rfl⟩
       rw [hm1] at hle1
       have HL1 := Kept.mk hm1
       clear hr hm1
       by_cases h4 : d.what % 4 = 0
       · skip
         have hwh : ((d.what : Int) % 4 == 0) = true := by rw [beq_iff_eq]; omega
         clear h4
         go_wp2_with (first
           | (go_at_call 23; refine (refSet_any l B m q s d.value _ (hV.out.below HB1.out) hL.out (by omega) (Nat.le_trans HSs.out (by omega))).mono ?_; intro e w2 h2; rw [HR.out] at h2; obtain ⟨B1, q1, rfl, hv1, hb2⟩ := h2.ok (mn := m1) HL1.out
              have HV1 := hv1
              have HB2 : Kept (Below wr.heap.size wr w2) := ⟨HB1.out.trans (hb2.mono HB1.out.size)⟩
              have HBw : Kept (Below w.heap.size w w2) := ⟨hB.out.trans (HB2.out.mono hB.out.size)⟩
              have HOW := HO.out.keep HGg.out HBw.out
              have o0 := HOW.c0
              have o4 := HOW.c4
              have o5 := HOW.c5
              clear h2 hb2 HOW))
         obtain ⟨l3, hl3⟩ := HSn.out l1 d.a d.b
         have HR3 := Kept.mk hl3
         have HF3 := Kept.mk (fine_mark HF1.out hl3 (Nat.le_trans HSs.out (by omega)))
         have hle3 := mark_le hl3
         rw [HL1.out] at hle3
         obtain ⟨m3, hm3⟩ : ∃ m3, l3.length = m3 := ⟨_, rfl⟩
         rw [hm3] at hle3
         have HL3 := Kept.mk hm3
         clear hl3 hm3
         go_region_held3 (fun w' => w'.cell? ⟨g, off + j * 6 + 4, none⟩ = some (.bool d.a) ∧ w'.cell? ⟨g, off + j * 6 + 5, none⟩ = some (.bool d.b))
           (first
           | exact ⟨o4, o5⟩
           | exact ⟨x4, x5⟩)
           (first
           | (go_at_call 24; refine (refMark_any l1 B1 m1 q1 s d.a d.b _ (HV1.out.below (Below.refl _ _).drew) HL1.out (by omega) (Nat.le_trans HSs.out (by omega))).mono ?_; intro e w4 h4; rw [HR3.out] at h4; obtain ⟨B3, q3, rfl, HV3, hb4⟩ := h4.ok (mn := m3) HL3.out
              have HB4 : Kept (Below w.heap.size w w4) := ⟨HBw.out.drew.trans (hb4.mono HBw.out.size)⟩
              have HOX := HO.out.keep HGg.out HB4.out
              have x4 := HOX.c4
              have x5 := HOX.c5
              clear h4 hb4 HOX))
         go_wp2_with fail
         go_round
         case rel => exact ⟨j + 1, m3, q3, B3, l3, by omega, by omega, by omega, by go_num, rfl, HV3, HL3, HF3, HB4⟩
         case measure => simp [intOf]; omega
       · skip
         have hwh : ((d.what : Int) % 4 == 0) = false := by rw [beq_eq_false_iff_ne]; omega
         clear h4
         go_wp2_with (first
           | (go_at_call 23; refine (refSet_any l B m q s d.value _ (hV.out.below HB1.out) hL.out (by omega) (Nat.le_trans HSs.out (by omega))).mono ?_; intro e w2 h2; rw [HR.out] at h2; obtain ⟨B1, q1, rfl, hv1, hb2⟩ := h2.ok (mn := m1) HL1.out
              have HV1 := hv1
              have HB2 : Kept (Below wr.heap.size wr w2) := ⟨HB1.out.trans (hb2.mono HB1.out.size)⟩
              have HBw : Kept (Below w.heap.size w w2) := ⟨hB.out.trans (HB2.out.mono hB.out.size)⟩
              have HOW := HO.out.keep HGg.out HBw.out
              have o0 := HOW.c0
              have o4 := HOW.c4
              have o5 := HOW.c5
              clear h2 hb2 HOW))
         go_round
         case rel => exact ⟨j + 1, m1, q1, B1, l1, by omega, by omega, by omega, by go_num, rfl, HV1, HL1, HF1, HBw⟩
         case measure => simp [intOf]; omega
     | error c =>
       have HR := Kept.mk hr
       have hc := set_err hr
       have hc0 : (c != 0) = true := by rcases hc with rfl | rfl <;> rfl
       have hc1 : (c == 0) = false := by rcases hc with rfl | rfl <;> rfl
       clear hr hc
       by_cases h4 : d.what % 4 = 0
       · skip
         have hwh : ((d.what : Int) % 4 == 0) = true := by rw [beq_iff_eq]; omega
         clear h4
         go_wp2_with (first
           | (go_at_call 23; refine (refSet_any l B m q s d.value _ (hV.out.below HB1.out) hL.out (by omega) (Nat.le_trans HSs.out (by omega))).mono ?_; intro e w2 h2; rw [HR.out] at h2; obtain ⟨B1, q1, rfl, _, hb2⟩ := h2.no
              have HV1 := Kept.mk ((hV.out.below HB1.out).below hb2)
              have HB2 : Kept (Below wr.heap.size wr w2) := ⟨HB1.out.trans (hb2.mono HB1.out.size)⟩
              have HBw : Kept (Below w.heap.size w w2) := ⟨hB.out.trans (HB2.out.mono hB.out.size)⟩
              have HOW := HO.out.keep HGg.out HBw.out
              have o0 := HOW.c0
              have o4 := HOW.c4
              have o5 := HOW.c5
              clear h2 hb2 HOW))
         obtain ⟨l3, hl3⟩ := HSn.out l d.a d.b
         have HR3 := Kept.mk hl3
         have HF3 := Kept.mk (fine_mark hF.out hl3 (Nat.le_trans HSs.out (by omega)))
         have hle3 := mark_le hl3
         rw [hL.out] at hle3
         obtain ⟨m3, hm3⟩ : ∃ m3, l3.length = m3 := ⟨_, rfl⟩
         rw [hm3] at hle3
         have HL3 := Kept.mk hm3
         clear hl3 hm3
         go_region_held3 (fun w' => w'.cell? ⟨g, off + j * 6 + 4, none⟩ = some (.bool d.a) ∧ w'.cell? ⟨g, off + j * 6 + 5, none⟩ = some (.bool d.b))
           (first
           | exact ⟨o4, o5⟩
           | exact ⟨x4, x5⟩)
           (first
           | (go_at_call 24; refine (refMark_any l B m q s d.a d.b _ (HV1.out.below (Below.refl _ _).drew) hL.out (by omega) (Nat.le_trans HSs.out (by omega))).mono ?_; intro e w4 h4; rw [HR3.out] at h4; obtain ⟨B3, q3, rfl, HV3, hb4⟩ := h4.ok (mn := m3) HL3.out
              have HB4 : Kept (Below w.heap.size w w4) := ⟨HBw.out.drew.trans (hb4.mono HBw.out.size)⟩
              have HOX := HO.out.keep HGg.out HB4.out
              have x4 := HOX.c4
              have x5 := HOX.c5
              clear h4 hb4 HOX))
         go_wp2_with fail
         go_round
         case rel => exact ⟨j + 1, m3, q3, B3, l3, by omega, by omega, by omega, by go_num, rfl, HV3, HL3, HF3, HB4⟩
         case measure => simp [intOf]; omega
       · skip
         have hwh : ((d.what : Int) % 4 == 0) = false := by rw [beq_eq_false_iff_ne]; omega
         clear h4
         go_wp2_with (first
           | (go_at_call 23; refine (refSet_any l B m q s d.value _ (hV.out.below HB1.out) hL.out (by omega) (Nat.le_trans HSs.out (by omega))).mono ?_; intro e w2 h2; rw [HR.out] at h2; obtain ⟨B1, q1, rfl, _, hb2⟩ := h2.no
              have HV1 := Kept.mk ((hV.out.below HB1.out).below hb2)
              have HB2 : Kept (Below wr.heap.size wr w2) := ⟨HB1.out.trans (hb2.mono HB1.out.size)⟩
              have HBw : Kept (Below w.heap.size w w2) := ⟨hB.out.trans (HB2.out.mono hB.out.size)⟩
              have HOW := HO.out.keep HGg.out HBw.out
              have o0 := HOW.c0
              have o4 := HOW.c4
              have o5 := HOW.c5
              clear h2 hb2 HOW))
         go_round
         case rel => exact ⟨j + 1, m, q, B, l, by omega, by omega, by omega, by go_num, rfl, HV1, hL, hF, HBw⟩
         case measure => simp [intOf]; omega
   · have hstop : (¬ (j : Int) < (n : Int)) ∨ ((j : Int) < (n : Int) ∧ ¬ (j : Int) < 12) := by omega
     clear hgo
     rcases hstop with h1 | ⟨h1, h2⟩
     all_goals
       go_wp2_with fail
       go_ret
       exact ⟨_, _, _, rfl, _, hL, by omega, hV, hF, hB.out⟩
end Va
end Go.Proofs.YtlggpefmojacoaaGreatDoor
end
section
namespace Go.Proofs.YtlggpefmojacoaaGreatDoor
open Go.RowKit Tx
namespace Ar
open Va (Vr VS VO DS getD Sorted)
open Pc (By8 pieces_prop)
theorem fine_ok {l : List Vr} (h : Va.Fine l) : Ok l := ⟨h.good.rise, fun v hv => (h.few v hv).2⟩
set_option maxHeartbeats 4000000 in
set_option maxRecDepth 100000 in
theorem evals_any (s : ByteArray) (A : Option Addr) (n k : Nat) (w : World) (hK : KT w) (hD : DS w A n) (hn : n ≤ 4611686018427387904) :
   Calls Tryz.prog 3 #[.string s, .slice A n k] w fun e w' => e = .returned (.bool true) ∧ Below w.heap.size w w' := by
 have HK := Kept.mk hK
 have HAw := Kept.mk (awake_any w hK)
 have HM : Kept (∀ w1, Below w.heap.size w w1 → _) := ⟨fun w1 hb => Va.made_any A n k w1 (hD.below hb) hn⟩
 clear hK hD hn
 by_cases hs : s.size ≤ 300
 · have z1 : ¬ (300 : Int) < (s.size : Int) := by omega
   have z2 : ¬ 300 < s.size := by omega
   have HS := Kept.mk hs
   clear hs
   go_enter Tryz.func3, Tryz.ntmps3
   go_wp2_with fail
   go_at_call 11
   refine HAw.out.mono ?_
   rintro e w1 ⟨rfl, hb⟩
   have HB1 := Kept.mk hb
   have HM1 := Kept.mk (HM.out w1 hb)
   clear hb
   go_wp2_with fail
   go_at_call 13
   refine HM1.out.mono ?_
   rintro e w2 ⟨B, m, q, l, rfl, hlm, hm, hV, hF, hb⟩
   have HB2 := Kept.mk (HB1.out.trans (hb.mono HB1.out.size))
   have HSm := Kept.mk (same_any s l w2 B m q hV.out hlm.out (fine_ok hF.out) (HK.out.below HB2.out) (by have := HS.out; omega) (by omega))
   clear hb hlm hm hV hF
   go_wp2_with fail
   go_at_call 12
   refine HSm.out.mono ?_
   rintro e w3 ⟨rfl, hb⟩
   have HB3 := Kept.mk (HB2.out.trans (hb.mono HB2.out.size))
   clear hb
   go_wp2_with fail
   go_ret
   exact ⟨rfl, HB3.out⟩
 · have z1 : (300 : Int) < (s.size : Int) := by omega
   have z2 : 300 < s.size := by omega
   clear hs
   go_enter Tryz.func3, Tryz.ntmps3
   go_wp2_with fail
   go_at_call 11
   refine HAw.out.mono ?_
   rintro e w1 ⟨rfl, hb⟩
   have HB1 := Kept.mk hb
   clear hb
   go_wp2_with fail
   go_ret
   exact ⟨rfl, HB1.out⟩
end Ar
end Go.Proofs.YtlggpefmojacoaaGreatDoor
end
section
namespace Go.Proofs.YtlggpefmojacoaaGreatDoor
open Go.RowKit Go.ChangeShapes
namespace Law
variable {H : Type} {enc : TypeId × Value → H} {P : Program}

def typesOk (P : Program) (ts : List TypeId) : Bool := ts.all fun t => P.readableRec t && decide (t < P.types.size)

theorem all_stay (hl : laidOutB P = true) {W W' : World} {sp : Nat → Bool} : ∀ {ts : List TypeId} {vs : List Value} {ds : List (DataW H)} {ps : List MemPlace}, typesOk P ts = true →
   DataW.TrodAll enc P W 0 (fun _ => true) true ts vs ds ps → (∀ p ∈ ps, W.sameAt W' p) → (∀ p ∈ ps, sp p.block = true) → DataW.TrodAll enc P W' 0 sp true ts vs ds ps
 | [], [], [], _, _, h, _, _ => h
 | t :: ts, v :: vs, d :: ds, ps, hr, h, hs, hsp => by
   obtain ⟨p, q, h1, h2, rfl⟩ := h
   simp only [typesOk, List.all_cons, Bool.and_eq_true, decide_eq_true_eq] at hr
   exact ⟨p, q, WideElems.Trod_stays hl hr.1.1 hr.1.2 h1 (fun x hx => hs x (List.mem_append_left _ hx)) (fun x hx => hsp x (List.mem_append_left _ hx)),
     all_stay hl hr.2 h2 (fun x hx => hs x (List.mem_append_right _ hx)) (fun x hx => hsp x (List.mem_append_right _ hx)), rfl⟩

theorem true_trod {W : World} {b : Nat} {sp : Nat → Bool} {hd : Bool} {B : TypeId} (hB : P.underlying B = some .bool) : DataW.Trod enc P W b sp hd B (.bool true) (.lit (.bool true)) [] :=
 ⟨1, by simp [DataW.trod, Value.cells, hB]⟩

theorem post {f : Func} {s : ChangeSpec} {apart fresh handsOn again : Bool} {W W' : World} {args : Array Value} {ds : List (DataW H)} {before : List MemPlace} {B : TypeId}
   (hl : laidOutB P = true) (hts : typesOk P f.params.toList = true) (hrt : f.resultTypes = #[B]) (hB : P.underlying B = some .bool) (hvars : s.vars = [])
   (hfn : s.fn H (ds ++ []) = { results := [.lit (.bool true)], args := ds }) (hW : DataW.Whole enc P f.params.toList s.vars apart W args.toList ds [] before) (hb : Below W.heap.size W W') :
   s.post enc P f apart fresh handsOn again W args (.bool true) W' := by
 have hlt : ∀ p ∈ before, p.block < W.heap.size := fun p hp => hW.lt p hp
 obtain ⟨p, q, hA, hV, hpq, hz, hn⟩ := id hW
 have hV' := hV
 rw [hvars] at hV'
 obtain ⟨-, rfl⟩ := trodVars_none hV'
 rw [List.append_nil] at hpq
 subst hpq
 have stays : ∀ sp : Nat → Bool, (∀ x ∈ before, sp x.block = true) → DataW.TrodAll enc P W' 0 sp true f.params.toList args.toList ds before :=
   fun sp hsp => all_stay hl hts hA (fun x hx => hb.same (hlt x hx)) hsp
 have res : ∀ (b : Nat) (sp : Nat → Bool) (hd : Bool), DataW.TrodAll enc P W' b sp hd f.resultTypes.toList ((Value.bool true).resultList f.resultTypes.size) [.lit (.bool true)] [] := by
   intro b sp hd
   rw [hrt]
   exact ⟨[], [], true_trod hB, rfl, rfl⟩
 have noVars : ∀ sp : Nat → Bool, DataW.TrodVars enc P W' sp s.vars ([] : List (DataW H)) [] := fun sp => by rw [hvars]; rfl
 refine ⟨ds, [], before, [], before, [], hW, by rw [hfn]; exact res _ _ _, by rw [hfn]; exact stays _ (fun x hx => decide_eq_true (hlt x hx)), by rw [hfn]; exact noVars _, ?_, fun _ => ⟨ok_one hrt rfl (okWide_bool_mk hB true), ?_⟩⟩
 · exact World.keptBut_mono (fun x hx => ⟨hx, .inr (.inl hx)⟩) (hb.frame (· ∈ before))
 · refine ⟨_, _, [] ++ before ++ [], ⟨[] ++ before, [], trodAll_append (stays _ (fun _ _ => rfl)) (res _ _ _), noVars _, rfl, ?_, ?_⟩, ?_⟩
   · intro b off hp
     have hin : MemPlace.cell b off ∈ before := by simpa using hp
     rw [hb.frozen (p := ⟨b, off, none⟩) (hlt _ hin)]
     exact hz b off hin
   · intro ha
     simpa using hn ha
   · intro x hx _
     simpa using hx
end Law
end Go.Proofs.YtlggpefmojacoaaGreatDoor
end
section
namespace Go.Proofs.YtlggpefmojacoaaGreatDoor
open Go.ChangeShapes Go.WideShapes Go.ChangeAt Go.RowKit Tx
namespace Ar
open Wx (Kit opVals wops)

theorem own : ownKnob Tryz.prog.godebug = none := by kernel_rfl
theorem laidOut : laidOutB Tryz.prog = true := by kernel_rfl
theorem gOps : Tryz.prog.globalNamed "scullion/word.operators" = some 8 := by kernel_rfl
theorem gOpsType : (Tryz.prog.globals[8]?).map (·.type) = some 184 := by kernel_rfl
theorem cellsOps : Tryz.prog.cellsOf 184 = 12 := by kernel_rfl
theorem cellsStr : Tryz.prog.cellsOf 9 = 1 := by kernel_rfl
theorem gPow : Tryz.prog.globalNamed "internal/strconv.uint64pow10" = some 1 := by kernel_rfl
theorem gPowType : (Tryz.prog.globals[1]?).map (·.type) = some 152 := by kernel_rfl
theorem cellsPow : Tryz.prog.cellsOf 152 = 20 := by kernel_rfl
theorem cellsU64 : Tryz.prog.cellsOf 116 = 1 := by kernel_rfl
theorem gSyn : Tryz.prog.globalNamed "strconv.ErrSyntax" = some 4 := by kernel_rfl
theorem gSynType : (Tryz.prog.globals[4]?).map (·.type) = some 118 := by kernel_rfl
theorem gRng : Tryz.prog.globalNamed "strconv.ErrRange" = some 5 := by kernel_rfl
theorem gRngType : (Tryz.prog.globals[5]?).map (·.type) = some 118 := by kernel_rfl

def laid : List (String × DataW Unit) := [("math/bits.deBruijn32tab", Rows.laid_math_bits_deBruijn32tab), ("math/bits.deBruijn64tab", Rows.laid_math_bits_deBruijn64tab), ("internal/strconv.uint64pow10", Rows.laid_internal_strconv_uint64pow10), ("unicode/utf8.acceptRanges", Rows.laid_unicode_utf8_acceptRanges), ("strconv.ErrRange", Rows.laid_strconv_ErrRange), ("strconv.ErrSyntax", Rows.laid_strconv_ErrSyntax), ("scullion/word.operators", Rows.laid_scullion_word_operators), ("unicode/utf8.first", Rows.laid_unicode_utf8_first)]
theorem cells_of_strs {H : Type} {enc : TypeId × Value → H} {P : Program} {w : World} {base : Nat} {sp : Nat → Bool} {held : Bool} {fuel : Nat} {t e : TypeId} {n : Nat} {cs : List Value} {ls : List (List UInt8)} {p : List MemPlace}
   (ht : P.underlying t = some (.array n e)) (he : P.underlying e = some .string) (hce : P.cellsOf e = 1) (hct : P.cellsOf t = n)
   (h : DataW.trod enc P w base sp held fuel t cs = some (.agg (ls.map fun l => .lit (.string l)), p)) : cs = ls.map fun l => Value.string (bs l) := by
 cases fuel with
 | zero => simp [DataW.trod] at h
 | succ fuel =>
   simp only [DataW.trod, ht, hce, hct, Nat.mul_one] at h
   split at h
   · rename_i hl
     obtain ⟨xs, hm, hx⟩ := Option.map_eq_some_iff.1 h
     have hxs : xs.map (·.1) = ls.map fun l => (DataW.lit (.string l) : DataW H) := by
       have := congrArg Prod.fst hx
       simpa using this
     have hxl : xs.length = n := by simpa using Lib.mapM_length hm
     have hzl : ls.length = n := by
       have := congrArg List.length hxs
       simp at this
       omega
     apply List.ext_getElem?
     intro i
     by_cases hi : i < n
     · obtain ⟨b, hb, hf⟩ := Lib.mapM_at hm i i (by simp [hi])
       obtain ⟨z, hc, rfl, _⟩ := DataW.trod_string he hf
       have h1 : cs[i]? = some (.string z) := by
         have := congrArg (·[0]?) hc
         simpa [List.getElem?_take, List.getElem?_drop] using this
       have h2 : (xs.map (·.1))[i]? = some (DataW.lit (.string z.data.toList) : DataW H) := by simp [hb]
       rw [hxs] at h2
       simp only [List.getElem?_map, Option.map_eq_some_iff, DataW.lit.injEq, Lit.string.injEq] at h2
       obtain ⟨l, hl2, e2⟩ := h2
       have e3 : bs l = z := by rw [e2]; exact bs_toL z
       simp [h1, hl2, e3]
     · rw [List.getElem?_eq_none (by omega), List.getElem?_eq_none (by simp; omega)]
   · cases h
theorem var_block {P : Program} {w : World} {n : String} {cs : Array Value} {g : Nat} (hg : P.globalNamed n = some g) (h : w.var? P n = some cs) : ∃ t fr, w.heap[g]? = some (.cells cs t fr) := by
 unfold World.var? at h
 rw [hg] at h
 simp only [Option.bind_some] at h
 split at h
 · rename_i cs' t fr hx
   obtain rfl := Option.some.inj h
   exact ⟨t, fr, hx⟩
 · cases h
theorem kit_head {W : World} {r : List (String × DataW Unit)} (h1 : laidMet Tryz.prog (("scullion/word.operators", Rows.laid_scullion_word_operators) :: r) W) (hsh : W.ShapedOpen Tryz.prog) : Kit W := by
 refine ⟨Tryz.laysM145.s1_3 W hsh, ?_⟩
 obtain ⟨ps, ⟨g', t', cs, fuel, p, q, hg', ht', hvar, hd, _, _⟩, _⟩ := h1
 obtain rfl := Option.some.inj (gOps.symm.trans hg')
 obtain rfl := Option.some.inj (gOpsType.symm.trans ht')
 have hc := cells_of_strs (ls := wops) Tryz.underlying184 Tryz.underlying9 cellsStr cellsOps hd
 have hcs : cs = opVals := Array.ext' (by rw [hc]; rfl)
 obtain ⟨t, fr, hb⟩ := var_block gOps hvar
 exact ⟨t, fr, by rw [← hcs]; exact hb⟩
theorem err_of {P : Program} {n nm : String} {x : DataW Unit} {r : List (String × DataW Unit)} {W : World} {g : Nat} {ti : TypeId} {ms : Array (String × TypeId)}
   (h : laidMet P ((n, .iface nm x) :: r) W) (hg : P.globalNamed n = some g) (ht : (P.globals[g]?).map (·.type) = some ti) (hi : P.underlying ti = some (.interface ms)) : ∃ tp p, W.var? P n = some #[.iface tp p] := by
 obtain ⟨ps, ⟨g0, t0, cs0, f0, p0, q0, hg0, ht0, hv0, hd0, _, e0⟩, _, _⟩ := h
 obtain rfl := Option.some.inj (hg.symm.trans hg0)
 obtain rfl := Option.some.inj (ht.symm.trans ht0)
 obtain ⟨_, u, v, hc, _, _⟩ := iface_of_trod hi hd0
 obtain ⟨l0⟩ := cs0
 obtain rfl : l0 = [.iface u v] := hc
 exact ⟨u, v, hv0⟩

set_option maxRecDepth 100000 in
theorem kt_of {W : World} (h : laidMetH Tryz.prog laid W) (hsh : W.ShapedOpen Tryz.prog) : KT W := by
 have h1 : laidMet Tryz.prog laid W := h
 have h3 := laidMet.tail (laidMet.tail h1)
 have h5 := laidMet.tail (laidMet.tail h3)
 have h6 := laidMet.tail h5
 have h7 := laidMet.tail h6
 obtain ⟨t1, p1, e1⟩ := err_of h6 gSyn gSynType Tryz.underlying118
 obtain ⟨t2, p2, e2⟩ := err_of h5 gRng gRngType Tryz.underlying118
 obtain ⟨_, _, b1⟩ := var_block gSyn e1
 obtain ⟨_, _, b2⟩ := var_block gRng e2
 exact ⟨kit_head h7 hsh, Lib.tabIs_of_head (zs := Lib.pow10Tab) gPow gPowType Tryz.underlying152 Tryz.underlying116 cellsU64 cellsPow h3, ⟨t1, p1, cell_of_row _ _ 0 _ _ _ b1⟩, ⟨t2, p2, cell_of_row _ _ 0 _ _ _ b2⟩⟩
theorem wf_i64 {n : Int} (h : (Lit.int .i64 n).wf = true) : rng n := by
 simp only [Lit.wf, Bool.and_eq_true, decide_eq_true_eq] at h
 have e0 : IntKind.i64.min = -9223372036854775808 := by decide
 have e1 : IntKind.i64.max = 9223372036854775807 := by decide
 rw [e0, e1] at h
 exact h
theorem wf_u8 {n : Int} (h : (Lit.int .u8 n).wf = true) : 0 ≤ n ∧ n < 256 := by
 simp only [Lit.wf, Bool.and_eq_true, decide_eq_true_eq] at h
 have e0 : IntKind.u8.min = 0 := by decide
 have e1 : IntKind.u8.max = 255 := by decide
 rw [e0, e1] at h
 omega
def synS : ByteArray := ⟨#[105, 110, 118, 97, 108, 105, 100, 32, 115, 121, 110, 116, 97, 120]⟩
def rngS : ByteArray := ⟨#[118, 97, 108, 117, 101, 32, 111, 117, 116, 32, 111, 102, 32, 114, 97, 110, 103, 101]⟩
noncomputable def low : Nat := (World.holding Tryz.prog default ⟨#[], #[], []⟩).heap.size
noncomputable def putRow (h : Array Obj) (g : Nat) (cs : Array Value) : Array Obj := h.modify g fun
 | .cells _ t frozen => .cells cs t frozen
 | o => o
def tab32 : List Int := [0, 1, 28, 2, 29, 14, 24, 3, 30, 22, 20, 15, 25, 17, 4, 8, 31, 27, 13, 23, 21, 19, 16, 7, 26, 12, 18, 6, 11, 5, 10, 9]
def tab64 : List Int := [0, 1, 56, 2, 57, 49, 28, 3, 61, 58, 42, 50, 38, 29, 17, 4, 62, 47, 59, 36, 45, 43, 51, 22, 53, 39, 33, 30, 24, 18, 12, 5, 63, 55, 48, 27, 60, 41, 37, 16, 46, 35, 44, 21, 52, 32, 23, 11, 54, 26, 40, 15, 34, 20, 31, 10, 25, 14, 19, 9, 13, 8, 7, 6]
def tabAcc : List Int := [128, 191, 160, 191, 128, 159, 144, 191, 128, 143, 0, 0, 0, 0, 0, 0, 0, 0, 0, 0, 0, 0, 0, 0, 0, 0, 0, 0, 0, 0, 0, 0]
noncomputable def laidWorld (os : Os) : World :=
 let w0 := World.holding Tryz.prog os ⟨#[.cells #[.string synS] 173, .cells #[.string rngS] 173], #[], []⟩
 { w0 with heap := putRow (putRow (putRow (putRow (putRow (putRow (putRow (putRow w0.heap 6 (tab32.map (Value.int .u8)).toArray) 7 (tab64.map (Value.int .u8)).toArray) 1 (Lib.pow10Tab.map (Value.int .u64)).toArray)
     8 opVals) 3 (tabAcc.map (Value.int .u8)).toArray) 2 (Pinned.utf8FirstZ.map fun (n : Nat) => Value.int .u8 (n : Int)).toArray)
     4 #[.iface 171 (.pointer (some ⟨low, 0, none⟩))]) 5 #[.iface 171 (.pointer (some ⟨low + 1, 0, none⟩))] }
theorem laid_met (os : Os) (args : Array Value) : laidMet Tryz.prog laid ((laidWorld os).forCall (fun _ _ => 0) ⟨#[], args, []⟩).memory :=
 laidMet_of_run' 8 (by kernel_rfl) (by kernel_rfl)
end Ar
end Go.Proofs.YtlggpefmojacoaaGreatDoor
end
section
namespace Go.Proofs.YtlggpefmojacoaaGreatDoor
open Go.ChangeShapes Go.WideShapes Go.ChangeAt Go.RowKit Tx
namespace Va
theorem cellsStr : Tryz.prog.cellsOf 9 = 1 := by kernel_rfl
theorem cellsByte : Tryz.prog.cellsOf 5 = 1 := by kernel_rfl
theorem cellsBool : Tryz.prog.cellsOf 4 = 1 := by kernel_rfl
theorem cellsAct : Tryz.prog.cellsOf 51 = 6 := by kernel_rfl
theorem bytesAct : Tryz.prog.bytesOf 51 = 48 := by kernel_rfl
theorem wf_u8 {n : Int} (h : (Lit.int .u8 n).wf = true) : 0 ≤ n ∧ n < 256 := by
 simp only [Lit.wf, Bool.and_eq_true, decide_eq_true_eq] at h
 have e0 : IntKind.u8.min = 0 := by decide
 have e1 : IntKind.u8.max = 255 := by decide
 rw [e0, e1] at h
 omega
theorem act_is : ∃ f0 f1 f2 f3 f4 f5 : Field, Tryz.prog.underlying 51 = some (.struct #[f0, f1, f2, f3, f4, f5]) ∧ f0.type = 5 ∧ f1.type = 5 ∧ f2.type = 9 ∧ f3.type = 9 ∧ f4.type = 4 ∧ f5.type = 4 ∧
   f0.offset = 0 ∧ f1.offset = 1 ∧ f2.offset = 2 ∧ f3.offset = 3 ∧ f4.offset = 4 ∧ f5.offset = 5 :=
 ⟨_, _, _, _, _, _, Tryz.underlying51, rfl, rfl, rfl, rfl, rfl, rfl, rfl, rfl, rfl, rfl, rfl, rfl⟩
set_option maxRecDepth 100000 in
theorem act_cells {H : Type} {enc : TypeId × Value → H} {W : World} {n base : Nat} {sp : Nat → Bool} {hd : Bool} {cs : List Value} {x : DataW H × List MemPlace} (h2 : DataW.trod enc Tryz.prog W base sp hd n 51 cs = some x)
   (hw : ∀ k ∈ DataW.weights Tryz.prog 51 x.1, k ≤ reachBytes) : ∃ d : Do, d.ok ∧ cs = [.int .u8 (d.what : Int), .int .u8 (d.name : Int), .string d.raw, .string d.value, .bool d.a, .bool d.b] ∧ d.raw.size + 1 ≤ Rows.uptoBulk x.1 := by
 obtain ⟨f0, f1, f2, f3, f4, f5, hu, t0, t1, t2, t3, t4, t5, o0, o1, o2, o3, o4, o5⟩ := act_is
 obtain ⟨xs, n', _, hxe, hcl, hxl, hfs⟩ := DataW.trod_struct hu h2
 rw [cellsAct] at hcl
 match cs, hcl, xs, hxl with
 | [v0, v1, v2, v3, v4, v5], _, [x0, x1, x2, x3, x4, x5], _ =>
   have g0 := hfs 0 f0 rfl
   have g1 := hfs 1 f1 rfl
   have g2 := hfs 2 f2 rfl
   have g3 := hfs 3 f3 rfl
   have g4 := hfs 4 f4 rfl
   have g5 := hfs 5 f5 rfl
   rw [t0, o0, cellsByte] at g0
   rw [t1, o1, cellsByte] at g1
   rw [t2, o2, cellsStr] at g2
   rw [t3, o3, cellsStr] at g3
   rw [t4, o4, cellsBool] at g4
   rw [t5, o5, cellsBool] at g5
   obtain ⟨n0, e0, y0, w0⟩ := DataW.trod_int Tryz.underlying5 g0
   obtain ⟨n1, e1, y1, w1⟩ := DataW.trod_int Tryz.underlying5 g1
   obtain ⟨s2, e2, y2, -⟩ := DataW.trod_string Tryz.underlying9 g2
   obtain ⟨s3, e3, y3, -⟩ := DataW.trod_string Tryz.underlying9 g3
   obtain ⟨b4, e4, y4⟩ := DataW.trod_bool Tryz.underlying4 g4
   obtain ⟨b5, e5, y5⟩ := DataW.trod_bool Tryz.underlying4 g5
   simp at e0 e1 e2 e3 e4 e5
   subst e0 e1 e2 e3 e4 e5 y0 y1 y2 y3 y4 y5 hxe
   have b0 := wf_u8 w0
   have b1 := wf_u8 w1
   obtain ⟨q0, rfl⟩ := Int.eq_ofNat_of_zero_le b0.1
   obtain ⟨q1, rfl⟩ := Int.eq_ofNat_of_zero_le b1.1
   have hr := hw s2.data.toList.length (by simp [DataW.weights, hu, DataW.weightsEach])
   have hv := hw s3.data.toList.length (by simp [DataW.weights, hu, DataW.weightsEach])
   have z2 : s2.data.toList.length = s2.size := toL_length s2
   have z3 : s3.data.toList.length = s3.size := toL_length s3
   unfold reachBytes at hr hv
   refine ⟨⟨q0, q1, s2, s3, b4, b5⟩, ⟨by show q0 < 256; omega, by show q1 < 256; omega, by show s2.size ≤ _; omega, by show s3.size ≤ _; omega⟩, rfl, ?_⟩
   show s2.size + 1 ≤ Rows.uptoBulk (DataW.agg [.lit (.int .u8 (q0 : Int)), .lit (.int .u8 (q1 : Int)), .lit (.string s2.data.toList), .lit (.string s3.data.toList), .lit (.bool b4), .lit (.bool b5)])
   simp only [Rows.uptoBulk, Rows.uptoBulkAll]
   omega
theorem weightsAll_mem {H : Type} {P : Program} {e : TypeId} : ∀ {l : List (DataW H)} {d : DataW H}, d ∈ l → ∀ n ∈ d.weights P e, n ∈ DataW.weightsAll P e l
 | d' :: r, d, hd, n, hn => by
   simp only [DataW.weightsAll, List.mem_append]
   rcases List.mem_cons.1 hd with rfl | h
   · exact Or.inl hn
   · exact Or.inr (weightsAll_mem h n hn)
set_option maxRecDepth 100000 in
theorem open_acts {H : Type} {enc : TypeId × Value → H} {W : World} {base : Nat} {ts : List TypeId} {ds : List (DataW H)} (hsz : (DataW.weightsEach Tryz.prog ts ds).all (· ≤ reachBytes) = true) {j : Nat} {v : Value} {d : DataW H} {p : List MemPlace}
   (ht : ts[j]? = some 22) (hd : ds[j]? = some d) (hv : Value.okWide Tryz.prog W .any base 22 v) (h : DataW.Trod enc Tryz.prog W 0 (fun _ => true) true 22 v d p) :
   ∃ A len cap, v = .slice A len cap ∧ DS W A len ∧ len ≤ 140737488355328 := by
 obtain ⟨a0, len, cap, rfl⟩ := okWide_slice Tryz.underlying22 hv
 obtain ⟨fuel, hf⟩ := h
 rcases Go.Deep.open_slice Tryz.underlying22 hf with ⟨hcs, hx⟩ | ⟨a, len', cap', m, n, D, Pl, hcs, _, hl, hm, hmm, hx, hall⟩
 · simp [Value.cells] at hcs
   obtain ⟨rfl, rfl, rfl⟩ := hcs
   exact ⟨none, 0, 0, rfl, fun i hi => by omega, by omega⟩
 · simp [Value.cells] at hcs
   obtain ⟨rfl, rfl, rfl⟩ := hcs
   simp only [Prod.mk.injEq] at hx
   obtain ⟨rfl, rfl⟩ := hx
   have hs := sized_slice hsz ht hd Tryz.underlying22
   rw [bytesAct] at hs
   simp only [List.length_map, List.length_range, reachBytes] at hs
   have hlm : len ≤ m := by rw [hmm]; split <;> omega
   refine ⟨some a, len, cap, rfl, ?_, by omega⟩
   intro i hi
   obtain ⟨cs', h1, h2⟩ := hall i (by omega)
   rw [cellsAct] at h1
   have hwt : ∀ k ∈ DataW.weights Tryz.prog 51 (D i), k ≤ reachBytes := fun k hk => by
     refine of_decide_eq_true (List.all_eq_true.1 hsz k (DataW.weights_mem_each ht hd k ?_))
     simp only [DataW.weights, Tryz.underlying22, List.mem_cons, List.mem_append]
     exact Or.inr (Or.inl (weightsAll_mem (List.mem_map.2 ⟨i, List.mem_range.2 hi, rfl⟩) k hk))
   obtain ⟨a', ha', rfl, _⟩ := act_cells h2 hwt
   obtain ⟨_, _, hc⟩ := World.cells?_some h1
   obtain ⟨g, off, spot⟩ := a
   have hspot : spot = none := by
     obtain ⟨cs0, h1, _⟩ := hall 0 (by omega)
     rw [cellsAct] at h1
     obtain ⟨_, _, hc⟩ := World.cells?_some h1
     obtain ⟨v, hv⟩ : ∃ v, cs0[0]? = some v := ⟨cs0[0]'(by omega), List.getElem?_eq_getElem _⟩
     have k0 := (hc 0 (by omega)).trans hv
     simpa [Addr.add] using World.cell?_spot k0
   subst hspot
   have k0 := hc 0 (by omega)
   have k1 := hc 1 (by omega)
   have k2 := hc 2 (by omega)
   have k3 := hc 3 (by omega)
   have k4 := hc 4 (by omega)
   have k5 := hc 5 (by omega)
   rw [Addr.add_lit, Addr.add_lit] at k0 k1 k2 k3 k4 k5
   simp only [List.getElem?_cons_zero, List.getElem?_cons_succ, Nat.add_zero] at k0 k1 k2 k3 k4 k5
   exact ⟨g, off, a', rfl, World.block_lt_of_cell? W _ k0, ha', k0, k1, k2, k3, k4, k5⟩
end Va
end Go.Proofs.YtlggpefmojacoaaGreatDoor
end
section
namespace Go.Proofs.YtlggpefmojacoaaGreatDoor
open Go.ChangeShapes Go.WideShapes Go.ChangeAt Go.RowKit Tx
namespace Ar

set_option maxRecDepth 100000 in
theorem revals_contract (H : Type) (enc : TypeId × Value → H) (W : World) (base : Nat) (args : Array Value) (ds gs : List (DataW H)) (before : List MemPlace)
   (hval : ∀ (j : Nat) t v, Tryz.f3.params[j]? = some t → args[j]? = some v → Value.okWide Tryz.prog W .any base t v)
   (hW : DataW.Whole enc Tryz.prog Tryz.f3.params.toList Rows.arithEvalsSpec.vars false W args.toList ds gs before)
   (hsz : (DataW.weightsEach Tryz.prog (Tryz.f3.params.toList ++ (OpenSpec.ofChange Rows.arithEvalsSpec).bare.plain.varTypes Tryz.prog) (ds ++ gs)).all (· ≤ reachBytes) = true)
   (hL : laidMetH Tryz.prog Rows.arithEvalsRow.laid W) (hsh : W.ShapedOpen Tryz.prog) :
   Calls Tryz.prog 3 args W fun e W' => ∃ v, e = .returned v ∧ Rows.arithEvalsSpec.post enc Tryz.prog Tryz.f3 false true false false W args v W' := by
 have hW' := hW
 obtain ⟨p, q, hA0, hV, rfl, hfz, hnd⟩ := hW
 obtain ⟨rfl, rfl⟩ := trodVars_none hV
 have hA : DataW.TrodAll enc Tryz.prog W 0 (fun _ => true) true Tryz.f3.params.toList args.toList ds p := hA0
 rw [Tryz.params3] at hA hval hsz
 obtain ⟨v0, vs0, d0, ds0, p0, q0, hargs, rfl, rfl, h0, r0⟩ := trodAll_cons hA
 obtain ⟨v1, vs1, d1, ds1, p1, q1, rfl, rfl, rfl, h1, r1⟩ := trodAll_cons r0
 obtain ⟨rfl, rfl, rfl⟩ := trodAll_nil r1
 obtain rfl : args = #[v0, v1] := by cases args; simp_all
 obtain ⟨s, rfl, rfl, rfl, hs⟩ := ChangeMaps.open_string Tryz.underlying9 (hval 0 9 v0 rfl rfl) h0
 obtain ⟨B, Bn, Bc, rfl, Bh, Bl⟩ := Va.open_acts hsz (j := 1) rfl rfl (hval 1 22 v1 rfl rfl) h1
 refine (evals_any s B Bn Bc W (kt_of hL hsh) Bh (by omega)).mono fun e W' ⟨he, hb⟩ => ?_
 subst he
 exact ⟨_, rfl, Law.post laidOut (by kernel_rfl) (by kernel_rfl) Tryz.underlying4 rfl rfl hW' hb⟩

theorem revals_laid_met (os : Os) : laidMet Tryz.prog Rows.arithEvalsRow.laid ((laidWorld os).forCall (fun _ _ => 0) ⟨#[], #[Value.string ⟨#[]⟩, Value.slice none 0 0], []⟩).memory :=
 laid_met os _
theorem revals_reads (os : Os) {H : Type} (enc : TypeId × Value → H) : ∃ places, DataW.whole enc Tryz.prog ((laidWorld os).forCall (fun _ _ => 0) ⟨#[], #[Value.string ⟨#[]⟩, Value.slice none 0 0], []⟩).memory Tryz.f3.params.toList Rows.arithEvalsSpec.vars false #[Value.string ⟨#[]⟩, Value.slice none 0 0].toList 8 = some ([.lit (.string []), .nil], [], places) :=
 ⟨[], by kernel_rfl⟩

set_option maxRecDepth 100000 in
theorem revals_lifted (os : Os) (started : os.Started) (H : Type) (enc : TypeId × Value → H) (F : Stop.Interp) :
   ReturnsInHanded {} Tryz.checked os 3 .any ((OpenSpec.ofChange Rows.arithEvalsSpec).preRow enc Tryz.prog Tryz.f3 Rows.arithEvalsRow.domain false Rows.arithEvalsRow.laid)
     (((OpenSpec.ofChange Rows.arithEvalsSpec).at F).post enc Tryz.prog Tryz.f3 false true false false) := by
 obtain ⟨places, hx⟩ := revals_reads os enc
 refine returnsInHanded_of_row (C := Tryz.checked) (s := OpenSpec.ofChange Rows.arithEvalsSpec) own started (by kernel_rfl) Tryz.func3
   (witness_row_at (enc := enc) (C := Tryz.checked) false (laidWorld os) #[Value.string ⟨#[]⟩, Value.slice none 0 0] rfl (by kernel_rfl) (by kernel_rfl) (by kernel_rfl)
     (OpenSpec.preRow_of_cond 8 hx (by kernel_rfl) (fun k hk => by cases hk) (by kernel_rfl) (revals_laid_met os))) ?_
 intro W base args ds gs before hval hW _ _ hsz hL hsh _
 exact revals_contract H enc W base args ds gs before hval hW hsz hL hsh

theorem revals_said : Rows.ArithEvalsSaid :=
 OpenClaim.holds_of_cond 3 Tryz.f3 rfl rfl rfl rfl rfl rfl rfl ⟨rfl, rfl, rfl, rfl, rfl⟩ rfl rfl rfl rfl rfl (by kernel_rfl) Tryz.func3 (by kernel_rfl)
   (of_decide_eq_true (by kernel_rfl)) (by unfold Func.isWrapper; first | (rw [if_pos (by decide +kernel)]; kernel_rfl) | (rw [if_neg (by decide +kernel)]; exact ⟨rfl, rfl⟩))
   (fun os started H enc _ F => by rw [OpenClaim.pre_eq_preRow]; exact revals_lifted os started H enc F)

theorem revals_plain (f : FuncId) (fn : Func) (hf : Tryz.pinned.checked.prog.funcNamed "scullion/scullionlaw13.ArithEvals" = some f) (hfn : Tryz.pinned.checked.prog.funcs[f]? = some fn) :
   true = Tryz.pinned.checked.prog.looks [] ∧ ∀ (j : Nat) t, fn.params[j]? = some t → Tryz.pinned.checked.prog.wantsStandIn t = false := by
 obtain rfl : f = 3 := Option.some.inj ((show Tryz.prog.funcNamed "scullion/scullionlaw13.ArithEvals" = some 3 by kernel_rfl).symm.trans hf) |>.symm
 obtain rfl : fn = Tryz.f3 := (Option.some.inj (Tryz.func3.symm.trans hfn)).symm
 refine ⟨by kernel_rfl, fun j t ht => ?_⟩
 rw [Tryz.params3] at ht
 have hm := Array.mem_of_getElem? ht
 simp at hm
 rcases hm with rfl | rfl
 · exact (show Tryz.prog.wantsStandIn 9 = false by kernel_rfl)
 · exact (show Tryz.prog.wantsStandIn 22 = false by kernel_rfl)

theorem revals_card : Rows.ArithEvalsCardSaid :=
 Claim7.holds_tied_plain_at .later [] _ _ _ _ revals_said (fun _ h => by cases h) (by kernel_rfl) (fun _ h => by cases h) arithEvals_row_tie rfl ⟨rfl, rfl⟩ (by kernel_rfl) rfl revals_plain (by kernel_rfl)
end Ar
end Go.Proofs.YtlggpefmojacoaaGreatDoor
end
