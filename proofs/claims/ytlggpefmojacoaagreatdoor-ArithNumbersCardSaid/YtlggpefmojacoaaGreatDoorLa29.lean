/-
  Parts of the proof, merged.
-/
import Derived.Laws.Entries
import Derived.Lib.Walk
import Derived.Test.YtlggpefmojacoaaGreatDoorLa04
import Derived.Test.YtlggpefmojacoaaGreatDoorLa27
import Derived.Test.YtlggpefmojacoaaGreatDoorLa28
import Derived.WalkArith
namespace Go.Proofs.YtlggpefmojacoaaGreatDoor
section
open Go.RowKit Tx
namespace Va
def cmpN (v : Vr) (n : ByteArray) : Int := Lib.compareBytes (toL v.name) (toL n)
set_option maxRecDepth 100000 in
theorem closure_any (v : Vr) (n : ByteArray) (w : World) : Calls Tryz.prog 97 #[.agg #[.string v.name, .string v.value, .bool v.ex, .bool v.ro], .string n] w fun e w' => e = .returned (.int .i64 (cmpN v n)) ∧ Below w.heap.size w w' := by
 have HX0 := Kept.mk (VX.begin w v)
 have HC : Kept (cmpN v n = Lib.compareBytes v.name.data.toList n.data.toList) := ⟨rfl⟩
 generalize cmpN v n = c at HC ⊢
 go_enter Tryz.func97, Tryz.ntmps97
 go_wp2_with (go_at_call 98; refine (Tryz.strings_Compare _ _ _).mono ?_; rintro e w2 ⟨rfl, rfl⟩)
 go_ret
 exact ⟨by rw [HC.out]; rfl, HX0.out.bl⟩
theorem cmpN_lt (v : Vr) (n : ByteArray) : cmpN v n < 0 ↔ lt v.name n := (cmp_lt _ _).1
theorem cmpN_eq (v : Vr) (n : ByteArray) : cmpN v n = 0 ↔ v.name = n := ⟨fun h => toL_inj ((cmp_lt _ _).2.1 h), fun h => (cmp_lt _ _).2.2 (by rw [h])⟩
theorem sorted_at {l : List Vr} (hs : Sorted l) {i j : Nat} {u v : Vr} (hu : l[i]? = some u) (hv : l[j]? = some v) (hij : i < j) : lt u.name v.name := by
 obtain ⟨h1, rfl⟩ := List.getElem?_eq_some_iff.1 hu
 obtain ⟨h2, rfl⟩ := List.getElem?_eq_some_iff.1 hv
 exact List.pairwise_iff_getElem.1 hs i j h1 h2 hij
set_option maxHeartbeats 2000000 in
set_option maxRecDepth 100000 in
theorem binary_any (l : List Vr) (A : Option Addr) (ln k : Nat) (n : ByteArray) (w : World) (hV : VS w A k l) (hn : l.length = ln) (hl : ln ≤ 100000) (hs : Sorted l) (p : Nat) (b : Bool) (hp : pos l n = p) (hb : found l n = b) :
   Calls Tryz.prog 96 #[.slice A ln k, .string n, .func (.func 97) #[] #[]] w fun e w' => e = .returned (.tuple #[.int .i64 (p : Int), .bool b]) ∧ Below w.heap.size w w' := by
 have HV := Kept.mk hV
 have HN := Kept.mk hn
 have HP := Kept.mk hp
 have HF := Kept.mk hb
 have HS := Kept.mk hs
 clear hV hn hp hb hs
 go_enter Tryz.func96, Tryz.ntmps96
 go_wp2_with fail
 go_loopw [9, 10] (fun x y wr => ∃ lo hi : Nat, x = .int .i64 (lo : Int) ∧ y = .int .i64 (hi : Int) ∧ lo ≤ hi ∧ hi ≤ ln ∧ Kept (Below w.heap.size w wr) ∧ Kept (∀ t u, l[t]? = some u → t < lo → lt u.name n) ∧ Kept (∀ t u, l[t]? = some u → hi ≤ t → ¬ lt u.name n)) (fun x y _ => (intOf y).toNat - (intOf x).toNat)
 case atStart => exact ⟨0, ln, rfl, rfl, by omega, by omega, ⟨Below.refl _ _⟩, ⟨fun t _ _ h => absurd h (Nat.not_lt_zero _)⟩, ⟨fun t u h1 h2 => by have := (List.getElem?_eq_some_iff.1 h1).1; have := HN.out; omega⟩⟩
 case round =>
   obtain ⟨lo, hi, rfl, rfl, hlh, hhi, hB, hI, hJ⟩ := hrel
   by_cases hlt : lo < hi
   · obtain ⟨m, hm⟩ : ∃ m, m = (lo + hi) / 2 := ⟨_, rfl⟩
     have hm1 : lo ≤ m := by omega
     have hm2 : m < hi := by omega
     obtain ⟨u, hu⟩ : ∃ u, l[m]? = some u := ⟨_, List.getElem?_eq_getElem (by rw [HN.out]; omega)⟩
     obtain ⟨g, off, rfl, hg, c0, c1, c2, c3⟩ := (HV.out.below hB.out).at hu
     have HC := Kept.mk (fun W => closure_any u n W)
     have j1 : (lo : Int) < (hi : Int) := by omega
     have hw1 : IntKind.i64.wrap ((lo : Int) + (hi : Int)) = (lo : Int) + (hi : Int) := IntWalk.i64_in _ (by omega)
     have hq : ((lo : Int) + (hi : Int)) / 2 = (m : Int) := by omega
     have hsh : Op.shift .shr .u64 ((lo : Int) + (hi : Int)) .u64 1 = pure (.int .u64 (m : Int)) := by
       rw [shift_shr .u64 .u64 _ 1 (by decide) (by decide), ← hq]
       rfl
     have hml : (m : Int) < (ln : Int) := by omega
     clear hq hm
     have hwm : IntKind.i64.wrap ((m : Int) + 1) = (m : Int) + 1 := IntWalk.i64_in _ (by omega)
     by_cases hu2 : lt u.name n
     · have hcn : cmpN u n < 0 := (cmpN_lt u n).2 hu2
       have HI2 : Kept (∀ t v, l[t]? = some v → t < m + 1 → lt v.name n) := ⟨fun t v hv ht => by
         by_cases e : t = m
         · subst e; rw [hu] at hv; injection hv with hv; rw [← hv]; exact hu2
         · exact lt_trans (sorted_at HS.out hv hu (by omega)) hu2⟩
       clear hu2 hI hu
       generalize cmpN u n = c at HC hcn
       go_wp2_with (go_at_call 97; refine (HC.out _).mono ?_; rintro e w1 ⟨rfl, hb1⟩; have HB1 : Kept (Below w.heap.size w w1) := ⟨hB.out.trans (hb1.mono hB.out.size)⟩; clear hb1)
       go_round
       case rel => exact ⟨m + 1, hi, by go_num, rfl, by omega, hhi, HB1, HI2, hJ⟩
       case measure => simp [intOf]; omega
     · have hcn : ¬ cmpN u n < 0 := fun h => hu2 ((cmpN_lt u n).1 h)
       have HJ2 : Kept (∀ t v, l[t]? = some v → m ≤ t → ¬ lt v.name n) := ⟨fun t v hv ht hh => by
         by_cases e : m = t
         · subst e; rw [hu] at hv; injection hv with hv; rw [← hv] at hh; exact hu2 hh
         · exact hu2 (lt_trans (sorted_at HS.out hu hv (by omega)) hh)⟩
       clear hu2 hJ hu
       generalize cmpN u n = c at HC hcn
       go_wp2_with (go_at_call 97; refine (HC.out _).mono ?_; rintro e w1 ⟨rfl, hb1⟩; have HB1 : Kept (Below w.heap.size w w1) := ⟨hB.out.trans (hb1.mono hB.out.size)⟩; clear hb1)
       go_round
       case rel => exact ⟨lo, m, rfl, rfl, by omega, by omega, HB1, hI, HJ2⟩
       case measure => simp [intOf]; omega
   · obtain rfl : hi = lo := by omega
     have j1 : ¬ (hi : Int) < (hi : Int) := by omega
     by_cases hin : hi < ln
     · obtain ⟨u, hu⟩ : ∃ u, l[hi]? = some u := ⟨_, List.getElem?_eq_getElem (by rw [HN.out]; exact hin)⟩
       obtain ⟨g, off, rfl, hg, c0, c1, c2, c3⟩ := (HV.out.below hB.out).at hu
       obtain ⟨e1, e2⟩ := pos_at hu hI.out (hJ.out hi u hu (Nat.le_refl _))
       obtain rfl : p = hi := HP.out.symm.trans e1
       have hf : b = decide (u.name = n) := HF.out.symm.trans e2
       have hcn : (cmpN u n == 0) = b := by rw [hf, Bool.eq_iff_iff, beq_iff_eq, decide_eq_true_iff]; exact cmpN_eq u n
       have HC := Kept.mk (fun W => closure_any u n W)
       have i1 : (p : Int) < (ln : Int) := by omega
       have i0 : (0 : Int) ≤ (p : Int) := by omega
       clear hu e1 e2 hf hI hJ
       generalize cmpN u n = c at HC hcn
       go_wp2_with (go_at_call 97; refine (HC.out _).mono ?_; rintro e w1 ⟨rfl, hb1⟩; have HB1 : Kept (Below w.heap.size w w1) := ⟨hB.out.trans (hb1.mono hB.out.size)⟩; clear hb1)
       go_ret2
       exact ⟨rfl, HB1.out⟩
     · obtain rfl : hi = ln := by omega
       obtain ⟨e1, e2⟩ := pos_all (l := l) (n := n) (fun i u h1 h2 => hI.out i u h1 (by have := HN.out; omega))
       obtain rfl : p = hi := by rw [← HP.out, e1, HN.out]
       obtain rfl : b = false := HF.out.symm.trans e2
       clear hI hJ e1 e2
       rcases A with _ | ⟨ga, oa, sa⟩
       all_goals
         go_wp2_with fail
         go_ret2
         exact ⟨rfl, hB.out⟩
set_option maxRecDepth 100000 in
theorem search_any (l : List Vr) (A : Option Addr) (ln k : Nat) (n : ByteArray) (w : World) (hV : VS w A k l) (hn : l.length = ln) (hl : ln ≤ 100000) (hs : Sorted l) (p : Nat) (b : Bool) (hp : pos l n = p) (hb : found l n = b) :
   Calls Tryz.prog 74 #[.slice A ln k, .string n] w fun e w' => e = .returned (.tuple #[.int .i64 (p : Int), .bool b]) ∧ Below w.heap.size w w' := by
 have HC := Kept.mk (binary_any l A ln k n w hV hn hl hs p b hp hb)
 clear hV hn hs hp hb
 go_enter Tryz.func74, Tryz.ntmps74
 go_wp2_with (go_at_call 96; refine HC.out.mono ?_; rintro e w1 ⟨rfl, hb1⟩; have HB1 := Kept.mk hb1; clear hb1)
 go_ret2
 exact ⟨rfl, HB1.out⟩
set_option maxHeartbeats 1000000 in
set_option maxRecDepth 100000 in
theorem get_any (l : List Vr) (A : Option Addr) (ln k : Nat) (n : ByteArray) (w : World) (hV : VS w A k l) (hn : l.length = ln) (hl : ln ≤ 100000) (hs : Sorted l) (v : Vr) (b : Bool) (hp : getD l n = v) (hb : found l n = b) :
   Calls Tryz.prog 51 #[.slice A ln k, .string n] w (GEnd w v b) := by
 have HV := Kept.mk hV
 have HN := Kept.mk hn
 have HF := Kept.mk hb
 have HS := Kept.mk hs
 have HX0 := Kept.mk (VX.begin w Vr.zero)
 have HV0 := Kept.mk (HV.out.below HX0.out.bl)
 cases b with
 | false =>
   obtain rfl : Vr.zero = v := (getD_no hb).symm.trans hp
   clear hV hn hs hp hb
   go_enter Tryz.func51, Tryz.ntmps51
   go_wp2_with (first
     | (go_at_call 74; refine (search_any l A ln k n _ HV0.out HN.out hl HS.out _ false rfl HF.out).mono ?_; rintro e w1 ⟨rfl, hb1⟩; have HX1 := Kept.mk (HX0.out.below hb1); clear hb1)
     | (refine wpList_store_row rfl 31 _ _ rfl _ _ rfl rfl 31 _ HX1.out.r (by kernel_rfl) rfl (by simp [Value.oneCell']) ?_
        have HO := Kept.mk (HX1.out.row Vr.zero)))
   refine bodyPost_ret (res_two rfl _ _ w.heap.size _ _ (0, 0) _ rfl HO.out.r Tryz.underlying31 rfl (by kernel_rfl)) rfl ?_
   exact ⟨rfl, HO.out.bl⟩
 | true =>
   have hlt := found_lt hb
   have hv : l[pos l n]? = some v := by rw [List.getElem?_eq_getElem hlt, ← getD_at hb, hp]
   obtain ⟨p, hpp⟩ : ∃ p, pos l n = p := ⟨_, rfl⟩
   rw [hpp] at hlt hv
   rw [hn] at hlt
   have HPp := Kept.mk hpp
   obtain ⟨g, off, rfl, hg, c0, c1, c2, c3⟩ := HV.out.at hv
   have HC := Kept.mk (And.intro hg (And.intro c0 (And.intro c1 (And.intro c2 c3))))
   have z0 : (0 : Int) ≤ (p : Int) := by omega
   have z1 : (p : Int) < (ln : Int) := by omega
   clear hV hn hs hp hb hv hpp c0 c1 c2 c3 hg
   go_enter Tryz.func51, Tryz.ntmps51
   go_wp2_with (first
     | (go_at_call 74; refine (search_any l _ ln k n _ HV0.out HN.out hl HS.out p true HPp.out HF.out).mono ?_; rintro e w1 ⟨rfl, hb1⟩; have HX1 := Kept.mk (HX0.out.below hb1)
        have c0 := (HX1.out.bl.cell (p := ⟨g, off + p * 4, none⟩) HC.out.1).trans HC.out.2.1
        have c1 := (HX1.out.bl.cell (p := ⟨g, off + p * 4 + 1, none⟩) HC.out.1).trans HC.out.2.2.1
        have c2 := (HX1.out.bl.cell (p := ⟨g, off + p * 4 + 2, none⟩) HC.out.1).trans HC.out.2.2.2.1
        have c3 := (HX1.out.bl.cell (p := ⟨g, off + p * 4 + 3, none⟩) HC.out.1).trans HC.out.2.2.2.2
        clear hb1)
     | (refine wpList_store_row rfl 31 _ _ rfl _ _ rfl rfl 31 _ HX1.out.r (by kernel_rfl) rfl (by simp [Value.oneCell']) ?_
        have HO := Kept.mk (HX1.out.row v)))
   refine bodyPost_ret (res_two rfl _ _ w.heap.size _ _ (0, 0) _ rfl HO.out.r Tryz.underlying31 rfl (by kernel_rfl)) rfl ?_
   exact ⟨rfl, HO.out.bl⟩
end Va
end
section
open Go.RowKit Tx
namespace Va
set_option maxHeartbeats 1000000 in
set_option maxRecDepth 100000 in
theorem grow_any (n : Nat) (w : World) (hn : n ≤ 1000000) :
   Calls Tryz.prog 119 #[.slice none 0 0, .int .i64 (n : Int)] w fun e w' => ∃ A k, e = .returned (.slice A 0 k) ∧ Kept (VO w' w.heap.size (.slice A 0 k) []) ∧ Below w.heap.size w w' := by
 have z0 : (0 : Int) ≤ (n : Int) := by omega
 by_cases h0 : n = 0
 · subst h0
   go_enter Tryz.func119, Tryz.ntmps119
   go_wp2_with fail
   go_ret
   exact ⟨_, _, rfl, ⟨VO.empty _ _⟩, Below.refl _ _⟩
 · obtain ⟨i, hi, hz, hs, hby⟩ := info_parts var_info
   have hrun : ∀ ty, (Builtin.append_ #[25, 3] ty #[.slice none 0 0, .int .i64 (n : Int)]).run Tryz.prog w = .ok _ _ := fun ty =>
     Lib.run_append_nil_zeros w 25 3 ty 31 i _ .i64 .i64 var_und (by kernel_rfl) hi hz n (by omega) (by omega) (by omega) (by rw [hby]; omega)
   have hG := grownCap_ge w n 0 31
   have hG2 := grownCap_le_maxLen w n 0 31 (by unfold maxLen; omega)
   obtain ⟨G, hGe⟩ : ∃ G, G = grownCap w n 0 31 := ⟨_, rfl⟩
   rw [← hGe] at hrun hG hG2
   obtain ⟨cs, hcs⟩ : ∃ cs, cs = Builtin.zeroCells (Value.agg #[.string ⟨#[]⟩, .string ⟨#[]⟩, .bool false, .bool false]).cells n ++ Builtin.zeroCells (Value.agg #[.string ⟨#[]⟩, .string ⟨#[]⟩, .bool false, .bool false]).cells (G - n) := ⟨_, rfl⟩
   rw [← hcs] at hrun
   have hsz : cs.size = G * 4 := by
     rw [hcs, Array.size_append, size_zeroCells, size_zeroCells]
     show n * 4 + (G - n) * 4 = G * 4
     omega
   have hO : Kept (VO (w.drew.alloc (.cells cs 31)) w.heap.size (.slice (some ⟨w.heap.size, 0, none⟩) 0 G) []) := ⟨⟨rfl, .inr ⟨w.heap.size, G, cs, rfl, Nat.le_refl _, heap_alloc_new w.drew _, Nat.zero_le _, hG2, hsz, rfl⟩⟩⟩
   have n1 : ¬ (n : Int) < 0 := by omega
   have n2 : (0 : Int) < (n : Int) := by omega
   have HB : Kept (Below w.heap.size w (w.drew.alloc (.cells cs 31))) := ⟨((Below.refl _ _).drew).alloc (Nat.le_refl _) _⟩
   clear hcs hGe hsz hi hz hs hby
   go_enter Tryz.func119, Tryz.ntmps119
   go_wp2_with (at_builtin; refine Lib.wpList_append_run _ rfl _ _ _ _ rfl _ _ rfl rfl _ _ (hrun _) ?_)
   all_goals
     go_ret
     exact ⟨_, _, rfl, hO, HB.out⟩
theorem flat_succ {ps : List (List Vr)} {j : Nat} {L : List Vr} (h : ps[j]? = some L) : (ps.take (j + 1)).flatten = (ps.take j).flatten ++ L := by
 obtain ⟨hj, rfl⟩ := List.getElem?_eq_some_iff.1 h
 rw [List.take_succ_eq_append_getElem hj, List.flatten_append]
 simp
theorem flat_le (ps : List (List Vr)) (j : Nat) : (ps.take j).flatten.length ≤ ps.flatten.length := by
 conv => rhs; rw [← List.take_append_drop j ps, List.flatten_append, List.length_append]
 omega
def LL (w : World) (sb : Nat) (ps : List (List Vr)) : Prop := sb < w.heap.size ∧ ∀ j L, ps[j]? = some L → ∃ A n k, w.cell? ⟨sb, j, none⟩ = some (.slice A n k) ∧ L.length = n ∧ VS w A k L
theorem LL.below {w w' : World} {sb : Nat} {ps : List (List Vr)} (h : LL w sb ps) (hb : Below w.heap.size w w') : LL w' sb ps :=
 ⟨Nat.lt_of_lt_of_le h.1 hb.size, fun j L hj => by
   obtain ⟨A, n, k, h1, h2, h3⟩ := h.2 j L hj
   exact ⟨A, n, k, (hb.cell (p := ⟨sb, j, none⟩) h.1).trans h1, h2, h3.below hb⟩⟩
set_option maxHeartbeats 2000000 in
set_option maxRecDepth 100000 in
theorem concat_any (ps : List (List Vr)) (sb m k : Nat) (w : World) (hL : LL w sb ps) (hm : ps.length = m) (hm2 : m ≤ 1000) (hf : ps.flatten.length ≤ 300000) :
   Calls Tryz.prog 104 #[.slice (some ⟨sb, 0, none⟩) m k] w fun e w' => ∃ A n q, e = .returned (.slice A n q) ∧ Kept (VO w' w.heap.size (.slice A n q) ps.flatten) ∧ Below w.heap.size w w' := by
 have HL := Kept.mk hL
 have HM := Kept.mk hm
 have HF := Kept.mk hf
 clear hL hm hf
 go_enter Tryz.func104, Tryz.ntmps104
 go_wp2_with fail
 go_loop [3, 11] (fun s i => ∃ j z : Nat, j ≤ m ∧ i = .int .i64 (j : Int) ∧ s = .int .i64 (z : Int) ∧ Kept (z = (ps.take j).flatten.length)) (fun _ i => m - (intOf i).toNat)
 case atStart => exact ⟨0, 0, by omega, rfl, rfl, ⟨rfl⟩⟩
 case round =>
   obtain ⟨j, z, hj, rfl, rfl, hz⟩ := hrel
   have j0 : (0 : Int) ≤ (j : Int) := by omega
   by_cases hlt : j < m
   · obtain ⟨L, hLj⟩ : ∃ L, ps[j]? = some L := ⟨_, List.getElem?_eq_getElem (by rw [HM.out]; exact hlt)⟩
     obtain ⟨A, n, q, c0, hn, _⟩ := HL.out.2 j L hLj
     have hs := flat_succ hLj
     have hz2 : Kept (z + n = (ps.take (j + 1)).flatten.length) := ⟨by rw [hs, List.length_append, hz.out, hn]⟩
     have hle : z + n ≤ 300000 := by rw [hz2.out]; exact Nat.le_trans (flat_le ps _) HF.out
     have j1 : (j : Int) < (m : Int) := by omega
     have hw : IntKind.i64.wrap ((z : Int) + (n : Int)) = (z : Int) + (n : Int) := IntWalk.i64_in _ (by omega)
     have hneg : ¬ (z : Int) + (n : Int) < 0 := by omega
     clear hLj hn hs hz
     go_wp2_with fail
     go_round
     case rel => exact ⟨j + 1, z + n, by omega, by go_num, by go_num, hz2⟩
     case measure => simp [intOf]; omega
   · obtain rfl : j = m := by omega
     have hzf : Kept (z = ps.flatten.length) := ⟨by rw [hz.out, List.take_of_length_le (by have := HM.out; omega)]⟩
     have hzl : z ≤ 300000 := by rw [hzf.out]; exact HF.out
     have j1 : ¬ (j : Int) < (j : Int) := by omega
     clear hz
     go_wp2_with (go_at_call 119; refine (grow_any z w (by omega)).mono ?_; rintro e w1 ⟨A1, k1, rfl, hO1, hb1⟩; have HB1 := Kept.mk hb1; clear hb1)
     go_loopw [6, 27] (fun v i wr => ∃ (t : Nat) (V : Option Addr) (vn vk : Nat), t ≤ j ∧ i = .int .i64 (t : Int) ∧ v = .slice V vn vk ∧ Kept (VO wr w.heap.size (.slice V vn vk) (ps.take t).flatten) ∧ Kept (Below w.heap.size w wr)) (fun _ i _ => j - (intOf i).toNat)
     case atStart => exact ⟨0, _, _, _, by omega, rfl, rfl, hO1, HB1⟩
     case round =>
       obtain ⟨t, V, vn, vk, ht, rfl, rfl, hO, hB⟩ := hrel
       have t0 : (0 : Int) ≤ (t : Int) := by omega
       by_cases hlt2 : t < j
       · obtain ⟨L, hLj⟩ : ∃ L, ps[t]? = some L := ⟨_, List.getElem?_eq_getElem (by rw [HM.out]; exact hlt2)⟩
         obtain ⟨A, n, q, c0, hn, hV⟩ := (HL.out.below hB.out).2 t L hLj
         have hs := Kept.mk (flat_succ hLj)
         have HNn := Kept.mk hn
         have HVv := Kept.mk hV
         have hvn := Kept.mk hO.out.vs.2
         have hle : vn + n ≤ 300000 := by
           have h1 : vn + n = (ps.take (t + 1)).flatten.length := by rw [hs.out, List.length_append, ← hvn.out, hn]
           rw [h1]; exact Nat.le_trans (flat_le ps _) HF.out
         have t1 : (t : Int) < (j : Int) := by omega
         clear hLj hn hV
         go_wp2_with (first
           | (at_builtin
              refine wpList_append_vars rfl _ _ rfl rfl rfl hO.out hvn.out.symm HVv.out HNn.out hB.out.size (by omega) ?_
              intro A2 k2 n2 w2 hn2 hO2 hb2
              have HB2 := Kept.mk (hB.out.trans hb2)
              clear hb2))
         go_round
         case rel => exact ⟨t + 1, _, _, _, by omega, by go_num, rfl, by rw [hs.out]; exact hO2, HB2⟩
         case measure => simp [intOf]; omega
       · obtain rfl : t = j := by omega
         have HO : Kept (VO wr w.heap.size (.slice V vn vk) ps.flatten) := ⟨by have := hO.out; rwa [List.take_of_length_le (by have := HM.out; omega)] at this⟩
         have t1 : ¬ (t : Int) < (t : Int) := by omega
         clear hO
         go_wp2_with fail
         go_ret
         exact ⟨_, _, _, rfl, HO, hB.out⟩
end Va
end
section
open Go.RowKit Tx
namespace Va
theorem LL.three {w : World} {A B C : Option Addr} {a b c i j k : Nat} {x y z : List Vr} (t : TypeId) (hx : VS w A i x) (hy : VS w B j y) (hz : VS w C k z) (ha : x.length = a) (hb : y.length = b) (hc : z.length = c) :
   LL (w.alloc (.cells #[.slice A a i, .slice B b j, .slice C c k] t)) w.heap.size [x, y, z] := by
 have hB : Below w.heap.size w (w.alloc (.cells #[.slice A a i, .slice B b j, .slice C c k] t)) := (Below.refl _ _).alloc (Nat.le_refl _) _
 refine ⟨by simp, fun n L hn => ?_⟩
 match n, hn with
 | 0, hn => cases hn; exact ⟨_, _, _, cell_of_row _ _ 0 _ _ (0, 0) (heap_alloc_new w _), ha, hx.below hB⟩
 | 1, hn => cases hn; exact ⟨_, _, _, cell_of_row _ _ 1 _ _ (0, 0) (heap_alloc_new w _), hb, hy.below hB⟩
 | 2, hn => cases hn; exact ⟨_, _, _, cell_of_row _ _ 2 _ _ (0, 0) (heap_alloc_new w _), hc, hz.below hB⟩
 | n + 3, hn => simp at hn
set_option maxHeartbeats 2000000 in
set_option maxRecDepth 100000 in
theorem replace_any (l mm : List Vr) (A C : Option Addr) (ln k mn q : Nat) (n : ByteArray) (w : World) (hV : VS w A k l) (hn : l.length = ln) (hl : ln ≤ 100000) (hs : Sorted l) (hM : VS w C q mm) (hmn : mm.length = mn) (hm1 : mn ≤ 1) :
   Calls Tryz.prog 80 #[.slice A ln k, .string n, .slice C mn q] w fun e w' => ∃ A2 n2 k2, e = .returned (.slice A2 n2 k2) ∧ Kept (VO w' w.heap.size (.slice A2 n2 k2) (put l n mm)) ∧ n2 = (put l n mm).length ∧ Below w.heap.size w w' := by
 have HC := Kept.mk (Cut.of l n)
 rw [hn] at HC
 obtain ⟨p, hp⟩ : ∃ p, p = pos l n := ⟨_, rfl⟩
 obtain ⟨b, hb⟩ : ∃ b, b = found l n := ⟨_, rfl⟩
 obtain ⟨r, hr⟩ : ∃ r, r = p + if b then 1 else 0 := ⟨_, rfl⟩
 rw [← hp, ← hb, ← hr] at HC
 have hple := pos_le l n
 rw [← hp, hn] at hple
 have hrle := HC.out.le
 have HP : Kept (put l n mm = [l.take p, mm, l.drop r].flatten) := ⟨by rw [put_cut, ← hp, ← hb, ← hr]; simp⟩
 obtain ⟨A1, k1, r1, h1⟩ := hV.take (n := ln) p (by omega)
 obtain ⟨m, hm⟩ : ∃ m, (l.drop r).length = m := ⟨_, rfl⟩
 obtain ⟨A2, k2, r2, h2⟩ := hV.drop (n := ln) r m (by omega) hn hm
 have hml : m + r = ln := by rw [List.length_drop, hn] at hm; omega
 have HV := Kept.mk hV
 have HS := Kept.mk hs
 have H1 := Kept.mk h1
 have H2 := Kept.mk h2
 have HM := Kept.mk hm
 have HN := Kept.mk hn
 have HMm := Kept.mk hM
 have HMn := Kept.mk hmn
 have hlp : (l.take p).length = p := by rw [List.length_take]; omega
 have HLP := Kept.mk hlp
 have HFl : Kept ([l.take p, mm, l.drop r].flatten.length ≤ 300000) := ⟨by simp only [List.flatten_cons, List.flatten_nil, List.length_append, List.length_nil, hlp, hmn, hm]; omega⟩
 rw [HP.out]
 have HQ := Kept.mk hr
 clear hV hs h1 h2 hm hn hlp hr hp hb HP hM hmn
 have z0 : (0 : Int) ≤ (p : Int) := by omega
 have hw1 : IntKind.i64.wrap ((p : Int) + 1) = (p : Int) + 1 := IntWalk.i64_in _ (by omega)
 have e2 : ((r : Nat) : Int) = if b then (p : Int) + 1 else (p : Int) := by rw [HQ.out]; cases b <;> simp
 rw [e2] at r2
 clear e2
 cases b
 all_goals
   simp only [if_true, Bool.false_eq_true, if_false] at r2
   go_enter Tryz.func80, Tryz.ntmps80
   go_wp2_with (first
     | (go_at_call 74; refine (search_any l A ln k n w HV.out HN.out hl HS.out p _ HC.out.pos HC.out.fnd).mono ?_; rintro e w1 ⟨rfl, hb1⟩
        have HB1 := Kept.mk hb1
        have HA1 := Kept.mk (H1.out.below hb1)
        have HA2 := Kept.mk (H2.out.below hb1)
        have HA3 := Kept.mk (HMm.out.below hb1)
        clear hb1))
   refine wp_region_still_tail 7 (by kernel_rfl) (by kernel_rfl) ?_
   simp only [List.take_succ_cons, List.take_zero, List.drop_succ_cons, List.drop_zero]
   repeat still_step
   refine wpStill_nil ?_
   go_wp2_with (first
     | (go_at_call 104
        refine (concat_any [l.take p, mm, l.drop r] w1.heap.size 3 3 _ ((LL.three (w := w1) 25 HA1.out HA3.out HA2.out HLP.out HMn.out HM.out).below (Below.refl _ _).drew) rfl (by omega) HFl.out).mono ?_
        rintro e w2 ⟨A3, n3, k3, rfl, hO, hb2⟩
        have HB2 : Kept (Below w.heap.size w w2) := ⟨(HB1.out.alloc HB1.out.size _).drew.trans (hb2.mono (by have := HB1.out.size; simp; omega))⟩
        clear hb2))
   go_ret
   exact ⟨_, _, _, rfl, ⟨hO.out.more (by have := HB1.out.size; simp; omega)⟩, hO.out.vs.2, HB2.out⟩
end Va
end
end Go.Proofs.YtlggpefmojacoaaGreatDoor
