/-
  Parts of the proof, merged.
-/
import Derived.Test.YtahjonfmhejoeaaGreatDoorVa32
namespace Go.Proofs.YtahjonfmhejoeaaGreatDoor
section
open Go.RowKit Tx
namespace Sy
open Lx (Tok tv tvs tvs_at Qt pan)
open Wx (Pt LV Nw parts)
theorem take_c (g d : Nat) (u : Tok) (s : List Tok) (W : World) (h : PM W g d (u :: s)) : Calls Tryz.prog 97 #[.pointer (some ⟨g, 0, none⟩)] W (RE W g d strV (.ok (u.text, s))) := by
 refine (take_any W g d u s h).mono ?_
 rintro e w' ⟨rfl, hp, ho⟩
 exact ⟨_, rfl, ⟨rfl⟩, hp, ho⟩
def Apart (v u : Value) : Prop := ∀ o, v.ownBlock = some o → u.ownBlock ≠ some o
theorem Gr.beside {α : Type} {C : CellsOf α} (S : Stable C) {bz bz' : Nat → Prop} {w w' : World} {nb g size : Nat} {et : TypeId} {v u : Value} {l : List α} (h : Gr bz w (nb + 1) et size C v l) (ho : Only (fun b => b = g ∨ b = nb ∨ u.ownBlock = some b) w w') (hg : g < nb) (hu : ∀ o, u.ownBlock = some o → bz o) (ha : Apart v u) (hm : ∀ b, bz b → bz' b) (hm2 : ∀ b, b < w.heap.size → bz' b → bz b) : Gr bz' w' (nb + 1) et size C v l :=
 h.on S ho (fun b h1 h2 => by
   rcases h2 with h2 | h2 | h2
   · omega
   · omega
   · exact hu b h2) (fun o h1 h2 => by
   have := h.lt o h1
   rcases h2 with h2 | h2 | h2
   · omega
   · omega
   · exact ha o h1 h2) hm hm2
theorem apart_new {w : World} {v u u' : Value} (hv : ∀ o, v.ownBlock = some o → o < w.heap.size) (ha : Apart v u) (hl : ∀ o, u'.ownBlock = some o → u.ownBlock = some o ∨ w.heap.size ≤ o) : Apart v u' := fun o h1 h2 => by
 rcases hl o h2 with h | h
 · exact ha o h1 h
 · have := hv o h1; omega
theorem Apart.symm {v u : Value} (h : Apart v u) : Apart u v := fun o h1 h2 => h o h2 h1
theorem nv_opk {P : Nat → Prop} {w : World} {k : Int} {q : Bool} {n : List UInt8} {os : List (List UInt8)} {ks : List Nd} {A4 A5 : Option Addr} {n4 n5 k4 k5 : Nat} (ho : SL P w (OCw P w) (.slice A4 n4 k4) os) (h : NL P w (.slice A5 n5 k5) ks) : NV P w (.agg #[.int .i64 k, .bool q, .string (bs n), .slice none 0 0, .slice none 0 0, .slice none 0 0, .slice A4 n4 k4, .slice A5 n5 k5]) (.mk k q n [] [] [] os ks) :=
 .mk k q n [] [] [] os ks _ _ _ _ _ ⟨rfl, rfl, rfl, rfl, sl_nil _ _ _, sl_nil _ _ _, sl_nil _ _ _, ho⟩ rfl h
set_option maxHeartbeats 8000000 in
set_option maxRecDepth 100000 in
theorem andOr_any (w : World) (g d : Nat) (ts : List Tok) (h : PM w g d ts) (c : List Tok → R Nd) (hc : Lt c) (HC : Kept (RdC 104 g d c)) (R0 : R Nd) (hR0 : R0 = andOr c ts) :
   Calls Tryz.prog 57 #[.pointer (some ⟨g, 0, none⟩)] w (RE w g d (nodV w) R0) := by
 have H := Kept.mk h
 have HLt := Kept.mk hc
 have HR : Kept (R0 = match c ts with | .error e => .error e | .ok (k0, r) => match andOrF c (r.length + 1) [] [k0] r with | .error e => .error e | .ok (z, r2) => if z.1.isEmpty then .ok (k0, r2) else .ok (.mk 2 false [] [] [] [] z.1 z.2, r2)) := ⟨hR0⟩
 clear hc hR0
 have HB := Kept.mk (BS.start h #[.int .i64 0, .bool false, .string ⟨#[]⟩, .slice none 0 0, .slice none 0 0, .slice none 0 0, .slice none 0 0, .slice none 0 0] #[.int .i64 2, .bool false, .string ⟨#[]⟩, .slice none 0 0, .slice none 0 0, .slice none 0 0, .slice none 0 0, .slice none 0 0] rfl)
 clear h
 obtain ⟨tiKids, zKids, hftKids⟩ := fitsKids (w.heap.size + 1) g 104 (fun W => by kernel_rfl)
 have FTKids := Kept.mk hftKids
 clear hftKids
 go_enter Tryz.func57, Tryz.ntmps57
 go_upto_region 2 with fail
 have HG : Kept (Gr (fun _ => False) ((w.alloc (.cells #[.int .i64 0, .bool false, .string ⟨#[]⟩, .slice none 0 0, .slice none 0 0, .slice none 0 0, .slice none 0 0, .slice none 0 0] 31)).alloc (.cells #[.int .i64 2, .bool false, .string ⟨#[]⟩, .slice none 0 0, .slice none 0 0, .slice none 0 0, .slice none 0 0, .slice none 0 0] 31)) (w.heap.size + 1 + 1) 31 8 NC (.slice none 0 0) []) := ⟨Gr.nil nc_stable _ _ _ _ _⟩
 have HGo : Kept (Gr (fun _ => False) ((w.alloc (.cells #[.int .i64 0, .bool false, .string ⟨#[]⟩, .slice none 0 0, .slice none 0 0, .slice none 0 0, .slice none 0 0, .slice none 0 0] 31)).alloc (.cells #[.int .i64 2, .bool false, .string ⟨#[]⟩, .slice none 0 0, .slice none 0 0, .slice none 0 0, .slice none 0 0, .slice none 0 0] 31)) (w.heap.size + 1 + 1) 9 1 OCw (.slice none 0 0) []) := ⟨Gr.nil oc_stable _ _ _ _ _⟩
 generalize hW : (w.alloc (.cells #[.int .i64 0, .bool false, .string ⟨#[]⟩, .slice none 0 0, .slice none 0 0, .slice none 0 0, .slice none 0 0, .slice none 0 0] 31)).alloc (.cells #[.int .i64 2, .bool false, .string ⟨#[]⟩, .slice none 0 0, .slice none 0 0, .slice none 0 0, .slice none 0 0, .slice none 0 0] 31) = w2 at *
 clear hW
 generalize hnb : w.heap.size + 1 = nb at *
 clear hnb
 have HZ : Kept (∀ b, (fun _ => False) b → b < w2.heap.size) := ⟨fun _ h => h.elim⟩
 refine grow nc_stable (n := 3) (p := 0) (t := 5) (fo := 7) (off := 7) (nt := 31) (lt := 29) (et := 31) (pt := 94) (rt := 31) (f := 104) (fun d _ _ _ _ h => by cases d <;> exact h) FTKids.out (by kernel_rfl) (by kernel_rfl) (by decide) (by decide) (by simp) rfl rfl HB.out.row rfl HG.out HB.out.pm HZ.out rfl (by have := HB.out.gn; have := HB.out.nr; omega) (by simp) (by decide) (fun W h => HC.out W ts h) valNode ?_ ?_
 · intro c1 w3 he ho a' hd
   have hR := HR.out
   rw [he] at hR
   refine ⟨hd, ?_⟩
   rw [hR]
   exact ⟨rfl, ⟨only_two HB.out.only ho.out⟩⟩
 · intro k0 r hx w3 v' bz' u s q1 hrow hgr hpm hz1 hz2 hz3 honly hlies
   have HR2 : Kept (R0 = match andOrF c (r.length + 1) [] [k0] r with | .error e => .error e | .ok (z, r2) => if z.1.isEmpty then .ok (k0, r2) else .ok (.mk 2 false [] [] [] [] z.1 z.2, r2)) := ⟨by rw [HR.out, hx]⟩
   have HB3 := Kept.mk (HB.out.grown hrow.out hpm.out honly.out (fun o h => by cases h))
   have HG3 := hgr
   have HGo3 : Kept (Gr bz' w3 (nb + 1) 9 1 OCw (.slice none 0 0) []) := ⟨Gr.nil oc_stable _ _ _ _ _⟩
   have HZ3 := Kept.mk hz3
   have HFew := Kept.mk HB3.out.pm.few
   clear hrow hpm honly hlies hz1 hz2 hz3 hgr HR hx HB HG HZ HGo
   simp only [Act.put, List.setIfInBounds_toArray, List.set_cons_zero, List.set_cons_succ]
   go_wp2_with fail
   go_loopg [] r.length (fun m wr => ∃ us rest os vk vo bz k, us.length ≤ m ∧ Kept (BS w wr g d nb #[.int .i64 2, .bool false, .string ⟨#[]⟩, .slice none 0 0, .slice none 0 0, .slice none 0 0, vo, vk] us) ∧ Kept (Gr bz wr (nb + 1) 31 8 NC vk (k0 :: rest)) ∧ Kept (Gr bz wr (nb + 1) 9 1 OCw vo os) ∧ Kept (Apart vk vo) ∧ Kept (∀ b, bz b → b < wr.heap.size) ∧ Kept (rest.length + us.length ≤ 20000) ∧ Kept (os.length = rest.length) ∧ Kept (us.length + 1 ≤ k) ∧ Kept (R0 = match andOrF c k os (k0 :: rest) us with | .error e => .error e | .ok (z, r2) => if z.1.isEmpty then .ok (k0, r2) else .ok (.mk 2 false [] [] [] [] z.1 z.2, r2)))
   case atStart => exact ⟨r, [], [], v', .slice none 0 0, bz', r.length + 1, Nat.le_refl _, HB3, HG3, HGo3, ⟨fun o h1 h2 => by cases h2⟩, HZ3, ⟨by have := HFew.out; simpa using this⟩, ⟨rfl⟩, ⟨Nat.le_refl _⟩, HR2⟩
   case round =>
     obtain ⟨us, rest, os, vk, vo, bz, k, hm, HB, HG, HGo, HAp, HZ, HKs, HLo, HN, HRr⟩ := hrel
     have HM := Kept.mk hm
     have HE1 : Kept (isT 1 [38, 38] us = decide (textT us = toL ⟨#[38, 38]⟩)) := ⟨(at_op HB.out.pm.good (by decide)).symm⟩
     have HE2 : Kept (isT 1 [124, 124] us = decide (textT us = toL ⟨#[124, 124]⟩)) := ⟨(at_op HB.out.pm.good (by decide)).symm⟩
     clear hm HR2 HB3 HG3 HZ3 HGo3
     cases he : (isT 1 [38, 38] us || isT 1 [124, 124] us) with
     | false =>
       obtain ⟨he1, he2⟩ := Bool.or_eq_false_iff.1 he
       rw [he1] at HE1
       rw [he2] at HE2
       have HRes : Kept (R0 = if os.isEmpty then .ok (k0, us) else .ok (.mk 2 false [] [] [] [] os (k0 :: rest), us)) := ⟨by
         rw [HRr.out]
         obtain ⟨k, rfl⟩ : ∃ j, k = j + 1 := ⟨k - 1, by have := HN.out; omega⟩
         rw [andOrF, if_neg (by rw [he]; decide)]⟩
       clear he he1 he2 HRr
       have T1 : Kept True := ⟨trivial⟩
       go_upto_region 7 with (first
         | (go_at_call 93; have := T1; clear T1; refine (at_any _ g d us ⟨#[38, 38]⟩ HB.out.pm false HE1.out).mono ?_; rintro e w4 ⟨rfl, hb⟩; have HBe := Kept.mk (HB.out.below hb); have HBl := Kept.mk hb; clear hb this)
         | (go_at_call 93; refine (at_any _ g d us ⟨#[124, 124]⟩ HBe.out.pm false HE2.out).mono ?_; rintro e w5 ⟨rfl, hb⟩; have HB4 := Kept.mk (HBe.out.below hb); have HBl2 : Kept (Only (· = g) wr w5) := ⟨(Only.refl _ _).below (HBl.out.trans (hb.mono HBl.out.size))⟩; clear hb))
       have HG4 : Kept (Gr bz w5 (nb + 1) 31 8 NC vk (k0 :: rest)) := ⟨HG.out.on nc_stable (B := (· = g)) HBl2.out (fun b h1 h2 => by have := HB.out.gn; have := HB.out.nr; omega) (fun o h1 h2 => by have := HG.out.lt o h1; have := HB.out.gn; have := HB.out.nr; omega) (fun _ h => h) (fun _ _ h => h)⟩
       have HGo4 : Kept (Gr bz w5 (nb + 1) 9 1 OCw vo os) := ⟨HGo.out.on oc_stable (B := (· = g)) HBl2.out (fun b h1 h2 => by have := HB.out.gn; have := HB.out.nr; omega) (fun o h1 h2 => by have := HGo.out.lt o h1; have := HB.out.gn; have := HB.out.nr; omega) (fun _ h => h) (fun _ _ h => h)⟩
       clear HB HG HGo HZ HBe HBl HBl2 HAp
       obtain ⟨A5, k5, rfl⟩ := HG4.out.slice
       obtain ⟨A4, k4, rfl⟩ := HGo4.out.slice
       have c7 := cell_of_row _ _ 7 _ _ _ HB4.out.row
       cases rest with
       | nil =>
         have ho0 : os = [] := List.eq_nil_of_length_eq_zero HLo.out
         have HRe2 : Kept (R0 = .ok (k0, us)) := ⟨by rw [HRes.out, ho0]; rfl⟩
         go_upto_region 8 with fail
         clear c7
         obtain ⟨kg, cap, cells, hve, hrg, hc8, hone, hnv⟩ := gr_first HG4.out
         injection hve with hv1 hv2 hv3
         subst hv1 hv3
         obtain ⟨old, hres, ho8⟩ := HB4.out.res
         have HDn := Kept.mk (HB4.out.pass cells.toArray)
         have HF := Kept.mk (fun cs : Array Value => nv_fin hnv (r := w.heap.size) (n := w.heap.size) (by have := HB4.out.nr; omega) (by have := HB4.out.nr; omega) cs)
         have hcell := cell_of_row _ _ 7 _ _ _ HB4.out.row
         refine App.first (n := 3) (r := 2) (t := 38) (fo := 7) (off := 7) (nt := 31) (lt := 29) (rb := w.heap.size) (v := .slice (some ⟨kg, 0, none⟩) 1 k5) (by kernel_rfl) (by simp [go_sem, hcell]) (ixNode kg _ 1 (by decide) _) rfl hrg Tryz.underlying31 rfl (by rw [hc8]; kernel_rfl) hres (by rw [hc8]; exact ho8) hone rfl rfl (by decide) (by simp) ?_
         clear hrg hone hres hnv hcell
         go_wp2_with fail
         refine bodyPost_ret (results_cell_row rfl _ _ w.heap.size _ _ (0, 0) _ rfl HDn.out.1 Tryz.underlying31 rfl (by rw [List.size_toArray, hc8]; kernel_rfl)) rfl ?_
         rw [HRe2.out]
         exact ⟨_, rfl, ⟨HF.out _⟩, ⟨HDn.out.2.1⟩, ⟨HDn.out.2.2⟩⟩
       | cons k1 rest =>
         have HRe2 : Kept (R0 = .ok (.mk 2 false [] [] [] [] os (k0 :: k1 :: rest), us)) := ⟨by
           rw [HRes.out]
           cases os with
           | nil => have := HLo.out; simp at this
           | cons a b => rfl⟩
         have hL : (((k0 :: k1 :: rest).length : Nat) : Int) ≠ 1 := by simp; omega
         generalize (k0 :: k1 :: rest).length = L at *
         have hL2 : ((L : Int) == 1) = false := beq_eq_false_iff_ne.2 hL
         have hL3 : ¬ L = 1 := by omega
         go_upto_region 9 with fail
         clear c7 hL hL2 hL3
         obtain ⟨old, hres, ho8⟩ := HB4.out.res
         have HOld := Kept.mk hres
         have HD := Kept.mk HB4.out.done
         have HK := Kept.mk (fun cs : Array Value => nl_done (sl_nl (HG4.out.read nc_stable (by decide))) (r := w.heap.size) (n := w.heap.size) (by have := HB4.out.nr; omega) (by have := HB4.out.nr; omega) cs)
         have HKo := Kept.mk (fun cs : Array Value => sl_done oc_stable (HGo4.out.read oc_stable (by decide)) (r := w.heap.size) (n := w.heap.size) (by have := HB4.out.nr; omega) (by have := HB4.out.nr; omega) cs)
         clear hres
         refine App.give (n := 3) (r := 2) (t := 42) (nt := 31) (rb := w.heap.size) HB4.out.row HOld.out Tryz.underlying31 rfl (by kernel_rfl) ho8 (all_node _ _ _ _ _ _ _ _ _ _ _ _ _ _ _ _ _ _) rfl rfl (by decide) (by simp) ?_
         go_wp2_with fail
         refine bodyPost_ret (results_cell_row rfl _ _ w.heap.size _ _ (0, 0) _ rfl HD.out.1 Tryz.underlying31 rfl (by kernel_rfl)) rfl ?_
         rw [HRe2.out]
         exact ⟨_, rfl, ⟨nv_opk (HKo.out _) (HK.out _)⟩, ⟨HD.out.2.1⟩, ⟨HD.out.2.2⟩⟩
     | true =>
       have HRc : Kept (match c (lines us.tail) with | .error e => R0 = .error e | .ok (x, r2) => ∃ j, k = j + 1 ∧ r2.length < us.length ∧ R0 = match andOrF c j (os ++ [textT us]) (k0 :: rest ++ [x]) r2 with | .error e => .error e | .ok (z, r2) => if z.1.isEmpty then .ok (k0, r2) else .ok (.mk 2 false [] [] [] [] z.1 z.2, r2)) := ⟨by
         obtain ⟨j, rfl⟩ : ∃ j, k = j + 1 := ⟨k - 1, by have := HN.out; omega⟩
         have := HRr.out
         rw [andOrF, if_pos he] at this
         cases hcu : c (lines us.tail) with
         | error e => rw [hcu] at this; exact this
         | ok z =>
           rw [hcu] at this
           exact ⟨j, rfl, by have := HLt.out _ _ _ hcu; have := lines_le us.tail; have := tail_le us; omega, this⟩⟩
       obtain ⟨u1, us1, rfl⟩ : ∃ u1 us1, us = u1 :: us1 := by
         cases us with
         | nil => cases he
         | cons a b => exact ⟨a, b, rfl⟩
       have HEo := Kept.mk he
       clear he HRr
       cases he1 : isT 1 [38, 38] (u1 :: us1) with
       | true =>
         rw [he1] at HE1
         clear he1 HE2
         go_upto_region 4 with (first
           | (go_at_call 93; refine (at_any _ g d (u1 :: us1) ⟨#[38, 38]⟩ HB.out.pm true HE1.out).mono ?_; rintro e w4 ⟨rfl, hb⟩; have HB4 := Kept.mk (HB.out.below hb); have HBl2 : Kept (Only (· = g) wr w4) := ⟨(Only.refl _ _).below hb⟩; clear hb))
         have HG4 : Kept (Gr bz w4 (nb + 1) 31 8 NC vk (k0 :: rest)) := ⟨HG.out.on nc_stable (B := (· = g)) HBl2.out (fun b h1 h2 => by have := HB.out.gn; have := HB.out.nr; omega) (fun o h1 h2 => by have := HG.out.lt o h1; have := HB.out.gn; have := HB.out.nr; omega) (fun _ h => h) (fun _ _ h => h)⟩
         have HGo4 : Kept (Gr bz w4 (nb + 1) 9 1 OCw vo os) := ⟨HGo.out.on oc_stable (B := (· = g)) HBl2.out (fun b h1 h2 => by have := HB.out.gn; have := HB.out.nr; omega) (fun o h1 h2 => by have := HGo.out.lt o h1; have := HB.out.gn; have := HB.out.nr; omega) (fun _ h => h) (fun _ _ h => h)⟩
         have HZ4 : Kept (∀ b, bz b → b < w4.heap.size) := ⟨fun b h => Nat.lt_of_lt_of_le (HZ.out b h) HBl2.out.size⟩
         clear HB HG HGo HZ HBl2
         obtain ⟨tiOps, zOps, hftOps⟩ := fitsOps (nb) g 97 (fun W => by kernel_rfl)
         have FTOps := Kept.mk hftOps
         clear hftOps
         refine grow oc_stable (n := 3) (p := 0) (t := 18) (fo := 6) (off := 6) (nt := 31) (lt := 24) (et := 9) (pt := 94) (rt := 9) (f := 97) (fun d _ _ _ _ h => by cases d <;> exact h) FTOps.out (by kernel_rfl) (by kernel_rfl) (by decide) (by decide) (by simp) rfl rfl HB4.out.row rfl HGo4.out HB4.out.pm HZ4.out rfl (by have := HB4.out.gn; have := HB4.out.nr; omega) (by have := HKs.out; have := HLo.out; simp at *; omega) (by decide) (fun W h => take_c g d u1 us1 W h) (val := fun _ => strV) valStr ?_ ?_
         · intro c1 w6 he ho a' hd
           cases he
         · intro x r2 hx w6 v2 bz2 u2 s2 q2 hrow hgr hpm hz1 hz2 hz3 honly hlies
           cases hx
           have HB5 := Kept.mk (HB4.out.grown hrow.out hpm.out honly.out (fun o h => by have := HGo4.out.lt o h; omega))
           have HGo5 := hgr
           have HG5 := Kept.mk (HG4.out.beside nc_stable honly.out (by have := HB4.out.gn; have := HB4.out.nr; omega) HGo4.out.busy HAp.out hz1 hz2)
           have HZ5 := Kept.mk hz3
           have HAp5 := Kept.mk (apart_new (fun o h => (HG4.out.lt o h).2) HAp.out hlies)
           clear hrow hpm honly hlies hz1 hz2 hz3 hgr HB4 HG4 HGo4 HZ4 HAp FTOps
           simp only [Act.put, List.setIfInBounds_toArray, List.set_cons_zero, List.set_cons_succ]
           go_upto_region 6 with (first
             | (go_at_call 55; refine (skipLines_any _ g d us1 HB5.out.pm).mono ?_; rintro e w7 ⟨rfl, hp, ho⟩; have HPf := hp; have HOf := ho; clear hp ho))
           have HB6 := Kept.mk (HB5.out.mv HOf.out HPf.out)
           have HG6 : Kept (Gr bz2 w7 (nb + 1) 31 8 NC vk (k0 :: rest)) := ⟨HG5.out.on nc_stable (B := (· = g)) HOf.out (fun b h1 h2 => by have := HB5.out.gn; have := HB5.out.nr; omega) (fun o h1 h2 => by have := HG5.out.lt o h1; have := HB5.out.gn; have := HB5.out.nr; omega) (fun _ h => h) (fun _ _ h => h)⟩
           have HGo6 : Kept (Gr bz2 w7 (nb + 1) 9 1 OCw v2 (os ++ [u1.text])) := ⟨HGo5.out.on oc_stable (B := (· = g)) HOf.out (fun b h1 h2 => by have := HB5.out.gn; have := HB5.out.nr; omega) (fun o h1 h2 => by have := HGo5.out.lt o h1; have := HB5.out.gn; have := HB5.out.nr; omega) (fun _ h => h) (fun _ _ h => h)⟩
           have HZ6 : Kept (∀ b, bz2 b → b < w7.heap.size) := ⟨fun b h => Nat.lt_of_lt_of_le (HZ5.out b h) HOf.out.size⟩
           clear HB5 HG5 HGo5 HZ5 HPf HOf
           refine grow nc_stable (n := 3) (p := 0) (t := 27) (fo := 7) (off := 7) (nt := 31) (lt := 29) (et := 31) (pt := 94) (rt := 31) (f := 104) (fun d _ _ _ _ h => by cases d <;> exact h) FTKids.out (by kernel_rfl) (by kernel_rfl) (by decide) (by decide) (by simp) rfl rfl HB6.out.row rfl HG6.out HB6.out.pm HZ6.out rfl (by have := HB6.out.gn; have := HB6.out.nr; omega) (by have := HKs.out; simp at *; omega) (by decide) (fun W h => HC.out W _ h) valNode ?_ ?_
           · intro e w8 he ho a' hd
             have hR := HRc.out
             rw [show (u1 :: us1).tail = us1 from rfl, he] at hR
             refine ⟨hd, ?_⟩
             rw [hR]
             exact ⟨rfl, ⟨only_two HB6.out.only ho.out⟩⟩
           · intro x r2 hx w8 v3 bz3 u3 s3 q3 hrow hgr hpm hz1 hz2 hz3 honly hlies
             have hR := HRc.out
             rw [show (u1 :: us1).tail = us1 from rfl, hx] at hR
             obtain ⟨j, rfl, hlt, hRj⟩ := hR
             have HRj := Kept.mk hRj
             have HLt2 := Kept.mk hlt
             have HB7 := Kept.mk (HB6.out.grown hrow.out hpm.out honly.out (fun o h => by have := HG6.out.lt o h; omega))
             have HG7 := hgr
             have HGo7 := Kept.mk (HGo6.out.beside oc_stable honly.out (by have := HB6.out.gn; have := HB6.out.nr; omega) HG6.out.busy HAp5.out.symm hz1 hz2)
             have HAp7 := Kept.mk (apart_new (fun o h => (HGo6.out.lt o h).2) HAp5.out.symm hlies).symm
             have HZ7 := Kept.mk hz3
             clear hrow hpm honly hlies hz1 hz2 hz3 hRj hlt hgr HRc hx
             simp only [Act.put, List.setIfInBounds_toArray, List.set_cons_zero, List.set_cons_succ]
             go_wp2_with fail
             go_roundg r2.length
             case measure => have := HM.out; have := HLt2.out; omega
             case rel => exact ⟨r2, rest ++ [x], os ++ [u1.text], v3, v2, bz3, j, Nat.le_refl _, HB7, HG7, HGo7, HAp7, HZ7, ⟨by have := HKs.out; have := HLt2.out; rw [List.length_append, List.length_singleton]; omega⟩, ⟨by rw [List.length_append, List.length_append, HLo.out]; rfl⟩, ⟨by have := HN.out; have := HLt2.out; omega⟩, HRj⟩
       | false =>
         have he2 : isT 1 [124, 124] (u1 :: us1) = true := by have := HEo.out; rw [he1, Bool.false_or] at this; exact this
         rw [he1] at HE1
         rw [he2] at HE2
         clear he1 he2
         have T1 : Kept True := ⟨trivial⟩
         go_upto_region 4 with (first
           | (go_at_call 93; have := T1; clear T1; refine (at_any _ g d (u1 :: us1) ⟨#[38, 38]⟩ HB.out.pm false HE1.out).mono ?_; rintro e w4 ⟨rfl, hb⟩; have HBe := Kept.mk (HB.out.below hb); have HBl := Kept.mk hb; clear hb this)
           | (go_at_call 93; refine (at_any _ g d (u1 :: us1) ⟨#[124, 124]⟩ HBe.out.pm true HE2.out).mono ?_; rintro e w5 ⟨rfl, hb⟩; have HB4 := Kept.mk (HBe.out.below hb); have HBl2 : Kept (Only (· = g) wr w5) := ⟨(Only.refl _ _).below (HBl.out.trans (hb.mono HBl.out.size))⟩; clear hb))
         have HG4 : Kept (Gr bz w5 (nb + 1) 31 8 NC vk (k0 :: rest)) := ⟨HG.out.on nc_stable (B := (· = g)) HBl2.out (fun b h1 h2 => by have := HB.out.gn; have := HB.out.nr; omega) (fun o h1 h2 => by have := HG.out.lt o h1; have := HB.out.gn; have := HB.out.nr; omega) (fun _ h => h) (fun _ _ h => h)⟩
         have HGo4 : Kept (Gr bz w5 (nb + 1) 9 1 OCw vo os) := ⟨HGo.out.on oc_stable (B := (· = g)) HBl2.out (fun b h1 h2 => by have := HB.out.gn; have := HB.out.nr; omega) (fun o h1 h2 => by have := HGo.out.lt o h1; have := HB.out.gn; have := HB.out.nr; omega) (fun _ h => h) (fun _ _ h => h)⟩
         have HZ4 : Kept (∀ b, bz b → b < w5.heap.size) := ⟨fun b h => Nat.lt_of_lt_of_le (HZ.out b h) HBl2.out.size⟩
         clear HB HG HGo HZ HBl2 HBe HBl
         obtain ⟨tiOps, zOps, hftOps⟩ := fitsOps (nb) g 97 (fun W => by kernel_rfl)
         have FTOps := Kept.mk hftOps
         clear hftOps
         refine grow oc_stable (n := 3) (p := 0) (t := 18) (fo := 6) (off := 6) (nt := 31) (lt := 24) (et := 9) (pt := 94) (rt := 9) (f := 97) (fun d _ _ _ _ h => by cases d <;> exact h) FTOps.out (by kernel_rfl) (by kernel_rfl) (by decide) (by decide) (by simp) rfl rfl HB4.out.row rfl HGo4.out HB4.out.pm HZ4.out rfl (by have := HB4.out.gn; have := HB4.out.nr; omega) (by have := HKs.out; have := HLo.out; simp at *; omega) (by decide) (fun W h => take_c g d u1 us1 W h) (val := fun _ => strV) valStr ?_ ?_
         · intro c1 w6 he ho a' hd
           cases he
         · intro x r2 hx w6 v2 bz2 u2 s2 q2 hrow hgr hpm hz1 hz2 hz3 honly hlies
           cases hx
           have HB5 := Kept.mk (HB4.out.grown hrow.out hpm.out honly.out (fun o h => by have := HGo4.out.lt o h; omega))
           have HGo5 := hgr
           have HG5 := Kept.mk (HG4.out.beside nc_stable honly.out (by have := HB4.out.gn; have := HB4.out.nr; omega) HGo4.out.busy HAp.out hz1 hz2)
           have HZ5 := Kept.mk hz3
           have HAp5 := Kept.mk (apart_new (fun o h => (HG4.out.lt o h).2) HAp.out hlies)
           clear hrow hpm honly hlies hz1 hz2 hz3 hgr HB4 HG4 HGo4 HZ4 HAp FTOps
           simp only [Act.put, List.setIfInBounds_toArray, List.set_cons_zero, List.set_cons_succ]
           go_upto_region 6 with (first
             | (go_at_call 55; refine (skipLines_any _ g d us1 HB5.out.pm).mono ?_; rintro e w7 ⟨rfl, hp, ho⟩; have HPf := hp; have HOf := ho; clear hp ho))
           have HB6 := Kept.mk (HB5.out.mv HOf.out HPf.out)
           have HG6 : Kept (Gr bz2 w7 (nb + 1) 31 8 NC vk (k0 :: rest)) := ⟨HG5.out.on nc_stable (B := (· = g)) HOf.out (fun b h1 h2 => by have := HB5.out.gn; have := HB5.out.nr; omega) (fun o h1 h2 => by have := HG5.out.lt o h1; have := HB5.out.gn; have := HB5.out.nr; omega) (fun _ h => h) (fun _ _ h => h)⟩
           have HGo6 : Kept (Gr bz2 w7 (nb + 1) 9 1 OCw v2 (os ++ [u1.text])) := ⟨HGo5.out.on oc_stable (B := (· = g)) HOf.out (fun b h1 h2 => by have := HB5.out.gn; have := HB5.out.nr; omega) (fun o h1 h2 => by have := HGo5.out.lt o h1; have := HB5.out.gn; have := HB5.out.nr; omega) (fun _ h => h) (fun _ _ h => h)⟩
           have HZ6 : Kept (∀ b, bz2 b → b < w7.heap.size) := ⟨fun b h => Nat.lt_of_lt_of_le (HZ5.out b h) HOf.out.size⟩
           clear HB5 HG5 HGo5 HZ5 HPf HOf
           refine grow nc_stable (n := 3) (p := 0) (t := 27) (fo := 7) (off := 7) (nt := 31) (lt := 29) (et := 31) (pt := 94) (rt := 31) (f := 104) (fun d _ _ _ _ h => by cases d <;> exact h) FTKids.out (by kernel_rfl) (by kernel_rfl) (by decide) (by decide) (by simp) rfl rfl HB6.out.row rfl HG6.out HB6.out.pm HZ6.out rfl (by have := HB6.out.gn; have := HB6.out.nr; omega) (by have := HKs.out; simp at *; omega) (by decide) (fun W h => HC.out W _ h) valNode ?_ ?_
           · intro e w8 he ho a' hd
             have hR := HRc.out
             rw [show (u1 :: us1).tail = us1 from rfl, he] at hR
             refine ⟨hd, ?_⟩
             rw [hR]
             exact ⟨rfl, ⟨only_two HB6.out.only ho.out⟩⟩
           · intro x r2 hx w8 v3 bz3 u3 s3 q3 hrow hgr hpm hz1 hz2 hz3 honly hlies
             have hR := HRc.out
             rw [show (u1 :: us1).tail = us1 from rfl, hx] at hR
             obtain ⟨j, rfl, hlt, hRj⟩ := hR
             have HRj := Kept.mk hRj
             have HLt2 := Kept.mk hlt
             have HB7 := Kept.mk (HB6.out.grown hrow.out hpm.out honly.out (fun o h => by have := HG6.out.lt o h; omega))
             have HG7 := hgr
             have HGo7 := Kept.mk (HGo6.out.beside oc_stable honly.out (by have := HB6.out.gn; have := HB6.out.nr; omega) HG6.out.busy HAp5.out.symm hz1 hz2)
             have HAp7 := Kept.mk (apart_new (fun o h => (HGo6.out.lt o h).2) HAp5.out.symm hlies).symm
             have HZ7 := Kept.mk hz3
             clear hrow hpm honly hlies hz1 hz2 hz3 hRj hlt hgr HRc hx
             simp only [Act.put, List.setIfInBounds_toArray, List.set_cons_zero, List.set_cons_succ]
             go_wp2_with fail
             go_roundg r2.length
             case measure => have := HM.out; have := HLt2.out; omega
             case rel => exact ⟨r2, rest ++ [x], os ++ [u1.text], v3, v2, bz3, j, Nat.le_refl _, HB7, HG7, HGo7, HAp7, HZ7, ⟨by have := HKs.out; have := HLt2.out; rw [List.length_append, List.length_singleton]; omega⟩, ⟨by rw [List.length_append, List.length_append, HLo.out]; rfl⟩, ⟨by have := HN.out; have := HLt2.out; omega⟩, HRj⟩
end Sy
end
end Go.Proofs.YtahjonfmhejoeaaGreatDoor
