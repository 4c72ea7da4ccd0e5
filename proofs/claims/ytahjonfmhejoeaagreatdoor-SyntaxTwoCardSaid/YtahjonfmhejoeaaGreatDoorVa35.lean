/-
  Parts of the proof, merged.
-/
import Derived.Test.YtahjonfmhejoeaaGreatDoorVa34
namespace Go.Proofs.YtahjonfmhejoeaaGreatDoor
section
open Go.RowKit Tx
namespace Sy
open Lx (Tok tv tvs tvs_at Qt pan)
open Wx (Pt LV Nw parts)
def RdN (f : FuncId) (g d : Nat) (c : List Tok → R Nd) : Prop := ∀ W us, us ≠ [] → PM W g d us → Calls Tryz.prog f #[.pointer (some ⟨g, 0, none⟩)] W (RE W g d (nodV W) (c us))
set_option maxHeartbeats 4000000 in
set_option maxRecDepth 100000 in
theorem deeper_elif (w : World) (g d : Nat) (ts : List Tok) (h : PM w g d ts) (hd : d ≤ 39) (hne : ts ≠ []) (c : List Tok → R Nd) (HC : Kept (RdN 95 g (d + 1) c)) :
   Calls Tryz.prog 94 #[.pointer (some ⟨g, 0, none⟩), .func (.func 95) #[.pointer (some ⟨g, 0, none⟩)] #[]] w (RE w g d (nodV w) (c ts)) := by
 have hz1 : IntKind.i64.wrap ((d : Int) + 1) = (d : Int) + 1 := IntWalk.i64_in _ (by omega)
 have hz2 : IntKind.i64.wrap ((d : Int) + 1 - 1) = (d : Int) := by rw [IntWalk.i64_in _ (by omega)]; omega
 have hz3 : IntKind.i64.wrap (d : Int) = (d : Int) := IntWalk.i64_in _ (by omega)
 have H1 := Kept.mk (h.below ((Below.refl w.heap.size w).alloc (Nat.le_refl _) (.cells #[.int .i64 0, .bool false, .string ⟨#[]⟩, .slice none 0 0, .slice none 0 0, .slice none 0 0, .slice none 0 0, .slice none 0 0] 31)))
 have c1 := H1.out.c1.1
 have f1 := H1.out.c1.2
 have HPl : Kept (PM ((w.alloc (.cells #[.int .i64 0, .bool false, .string ⟨#[]⟩, .slice none 0 0, .slice none 0 0, .slice none 0 0, .slice none 0 0, .slice none 0 0] 31)).setCell ⟨g, 1, none⟩ (.int .i64 ((d : Int) + 1))) g (d + 1) ts) := ⟨H1.out.level (d + 1) (by omega)⟩
 have HO1 : Kept (Only (· = g) w ((w.alloc (.cells #[.int .i64 0, .bool false, .string ⟨#[]⟩, .slice none 0 0, .slice none 0 0, .slice none 0 0, .slice none 0 0, .slice none 0 0] 31)).setCell ⟨g, 1, none⟩ (.int .i64 ((d : Int) + 1)))) := ⟨only_set ((Only.refl _ _).below ((Below.refl _ _).alloc (Nat.le_refl _) _)) 1 _⟩
 have hglt := h.lt
 have HRs : Kept (((w.alloc (.cells #[.int .i64 0, .bool false, .string ⟨#[]⟩, .slice none 0 0, .slice none 0 0, .slice none 0 0, .slice none 0 0, .slice none 0 0] 31)).setCell ⟨g, 1, none⟩ (.int .i64 ((d : Int) + 1))).heap[w.heap.size]? = some (.cells #[.int .i64 0, .bool false, .string ⟨#[]⟩, .slice none 0 0, .slice none 0 0, .slice none 0 0, .slice none 0 0, .slice none 0 0] 31 (0, 0))) := ⟨(Below.heap_setCell _ _ _ _ (by show w.heap.size ≠ g; omega)).trans (heap_alloc_new w _)⟩
 have HGl := Kept.mk hglt
 have HD := Kept.mk hd
 have HNe := Kept.mk hne
 clear h hd hglt hne
 go_enter Tryz.func94, Tryz.ntmps94
 go_wp2_with fail
 generalize hW : (w.alloc (.cells #[.int .i64 0, .bool false, .string ⟨#[]⟩, .slice none 0 0, .slice none 0 0, .slice none 0 0, .slice none 0 0, .slice none 0 0] 31)).setCell ⟨g, 1, none⟩ (.int .i64 ((d : Int) + 1)) = w1 at *
 clear hW c1 f1 H1
 go_at_call 95
 refine (HC.out w1 ts HNe.out HPl.out).mono ?_
 intro e w2 hE
 cases hcu : c ts with
 | error e2 =>
   rw [hcu] at hE
   obtain ⟨rfl, ho⟩ := hE
   first | exact ⟨rfl, rfl, ⟨only_two HO1.out ho.out⟩⟩ | exact ⟨rfl, ⟨only_two HO1.out ho.out⟩⟩
 | ok z =>
   obtain ⟨x, us⟩ := z
   rw [hcu] at hE
   obtain ⟨u, rfl, hu, hp, ho⟩ := hE
   have HRc := Kept.mk hcu
   clear hcu
   obtain ⟨k, q, n, A1, n1, k1, A2, n2, k2, A3, n3, k3, A4, n4, k4, A5, n5, k5, ws, gs, rs, os, ks, rfl, _, _, _⟩ := nv_parts hu.out
   obtain ⟨csx, hcsx⟩ : ∃ csx : Array Value, csx = #[.int .i64 k, .bool q, .string (bs n), .slice A1 n1 k1, .slice A2 n2 k2, .slice A3 n3 k3, .slice A4 n4 k4, .slice A5 n5 k5] := ⟨_, rfl⟩
   have HU := hu
   have HP2 := Kept.mk (hp.out.below ((Below.refl w2.heap.size w2).alloc (Nat.le_refl _) (.cells #[.int .i64 k, .bool q, .string (bs n), .slice A1 n1 k1, .slice A2 n2 k2, .slice A3 n3 k3, .slice A4 n4 k4, .slice A5 n5 k5] 31)))
   have c1 : _ = some (Value.int .i64 ((d : Int) + 1)) := HP2.out.c1.1
   have f1 := HP2.out.c1.2
   have hs1 := HO1.out.size
   have hs2 := ho.out.size
   have hrs : w.heap.size < w1.heap.size := (Array.getElem?_eq_some_iff.1 HRs.out).1
   have HB : Kept (BS w ((w2.alloc (.cells #[.int .i64 k, .bool q, .string (bs n), .slice A1 n1 k1, .slice A2 n2 k2, .slice A3 n3 k3, .slice A4 n4 k4, .slice A5 n5 k5] 31)).setCell ⟨g, 1, none⟩ (.int .i64 (d : Int))) g d w2.heap.size #[.int .i64 k, .bool q, .string (bs n), .slice A1 n1 k1, .slice A2 n2 k2, .slice A3 n3 k3, .slice A4 n4 k4, .slice A5 n5 k5] us) := ⟨by
     refine ⟨(Below.heap_setCell _ _ _ _ (by show w2.heap.size ≠ g; have := HGl.out; omega)).trans (heap_alloc_new w2 _), ⟨_, (Below.heap_setCell _ _ _ _ (by show w.heap.size ≠ g; have := HGl.out; omega)).trans ((Below.heap_alloc w2 _ _ (by omega)).trans ((ho.out.block _ hrs (by have := HGl.out; omega)).trans HRs.out)), rfl⟩, HP2.out.level d (by have := HD.out; omega), only_set ((only_two HO1.out ho.out).below ((Below.refl _ _).alloc (Nat.le_refl _) _)) 1 _, HGl.out, by omega⟩⟩
   have HN : Kept (NV (Nw w1.heap.size) ((w2.alloc (.cells #[.int .i64 k, .bool q, .string (bs n), .slice A1 n1 k1, .slice A2 n2 k2, .slice A3 n3 k3, .slice A4 n4 k4, .slice A5 n5 k5] 31)).setCell ⟨g, 1, none⟩ (.int .i64 (d : Int))) (.agg #[.int .i64 k, .bool q, .string (bs n), .slice A1 n1 k1, .slice A2 n2 k2, .slice A3 n3 k3, .slice A4 n4 k4, .slice A5 n5 k5]) x) := ⟨HU.out.same (fun b hP hl => ⟨hP, (Below.heap_setCell _ _ _ _ (by have : w1.heap.size ≤ b := hP; have := HGl.out; show b ≠ g; omega)).trans (Below.heap_alloc w2 _ b hl)⟩) (by simp [World.setCell])⟩
   have HSz : Kept (w.heap.size < w1.heap.size) := ⟨hrs⟩
   clear hu hp ho hs1 hs2 hrs hcsx
   go_upto_region 4 with fail
   generalize hW3 : (w2.alloc (.cells #[.int .i64 k, .bool q, .string (bs n), .slice A1 n1 k1, .slice A2 n2 k2, .slice A3 n3 k3, .slice A4 n4 k4, .slice A5 n5 k5] 31)).setCell ⟨g, 1, none⟩ (.int .i64 (d : Int)) = w3 at *
   clear hW3 c1 f1 HP2
   obtain ⟨old, hres, ho8⟩ := HB.out.res
   have HOld := Kept.mk hres
   have HDn := Kept.mk HB.out.done
   have HF := Kept.mk (fun cs : Array Value => nv_done HN.out HSz.out (Nat.le_of_lt HSz.out) cs)
   clear hres
   refine App.give (n := 5) (r := 4) (t := 22) (nt := 31) (rb := w.heap.size) HB.out.row HOld.out Tryz.underlying31 rfl (by kernel_rfl) ho8 (all_node _ _ _ _ _ _ _ _ _ _ _ _ _ _ _ _ _ _) rfl rfl (by decide) (by simp) ?_
   go_wp2_with fail
   refine bodyPost_ret (results_cell_row rfl _ _ w.heap.size _ _ (0, 0) _ rfl HDn.out.1 Tryz.underlying31 rfl (by kernel_rfl)) rfl ?_
   try unfold RE
   rw [HRc.out]
   exact ⟨_, rfl, ⟨HF.out _⟩, ⟨HDn.out.2.1⟩, ⟨HDn.out.2.2⟩⟩
set_option maxHeartbeats 4000000 in
set_option maxRecDepth 100000 in
theorem deeper_command (w : World) (g d : Nat) (ts : List Tok) (h : PM w g d ts) (hd : d ≤ 39) (c : List Tok → R Nd) (HC : Kept (RdC 129 g (d + 1) c)) :
   Calls Tryz.prog 94 #[.pointer (some ⟨g, 0, none⟩), .func (.func 129) #[.pointer (some ⟨g, 0, none⟩)] #[]] w (RE w g d (nodV w) (c ts)) := by
 have hz1 : IntKind.i64.wrap ((d : Int) + 1) = (d : Int) + 1 := IntWalk.i64_in _ (by omega)
 have hz2 : IntKind.i64.wrap ((d : Int) + 1 - 1) = (d : Int) := by rw [IntWalk.i64_in _ (by omega)]; omega
 have hz3 : IntKind.i64.wrap (d : Int) = (d : Int) := IntWalk.i64_in _ (by omega)
 have H1 := Kept.mk (h.below ((Below.refl w.heap.size w).alloc (Nat.le_refl _) (.cells #[.int .i64 0, .bool false, .string ⟨#[]⟩, .slice none 0 0, .slice none 0 0, .slice none 0 0, .slice none 0 0, .slice none 0 0] 31)))
 have c1 := H1.out.c1.1
 have f1 := H1.out.c1.2
 have HPl : Kept (PM ((w.alloc (.cells #[.int .i64 0, .bool false, .string ⟨#[]⟩, .slice none 0 0, .slice none 0 0, .slice none 0 0, .slice none 0 0, .slice none 0 0] 31)).setCell ⟨g, 1, none⟩ (.int .i64 ((d : Int) + 1))) g (d + 1) ts) := ⟨H1.out.level (d + 1) (by omega)⟩
 have HO1 : Kept (Only (· = g) w ((w.alloc (.cells #[.int .i64 0, .bool false, .string ⟨#[]⟩, .slice none 0 0, .slice none 0 0, .slice none 0 0, .slice none 0 0, .slice none 0 0] 31)).setCell ⟨g, 1, none⟩ (.int .i64 ((d : Int) + 1)))) := ⟨only_set ((Only.refl _ _).below ((Below.refl _ _).alloc (Nat.le_refl _) _)) 1 _⟩
 have hglt := h.lt
 have HRs : Kept (((w.alloc (.cells #[.int .i64 0, .bool false, .string ⟨#[]⟩, .slice none 0 0, .slice none 0 0, .slice none 0 0, .slice none 0 0, .slice none 0 0] 31)).setCell ⟨g, 1, none⟩ (.int .i64 ((d : Int) + 1))).heap[w.heap.size]? = some (.cells #[.int .i64 0, .bool false, .string ⟨#[]⟩, .slice none 0 0, .slice none 0 0, .slice none 0 0, .slice none 0 0, .slice none 0 0] 31 (0, 0))) := ⟨(Below.heap_setCell _ _ _ _ (by show w.heap.size ≠ g; omega)).trans (heap_alloc_new w _)⟩
 have HGl := Kept.mk hglt
 have HD := Kept.mk hd
 clear h hd hglt
 go_enter Tryz.func94, Tryz.ntmps94
 go_wp2_with fail
 generalize hW : (w.alloc (.cells #[.int .i64 0, .bool false, .string ⟨#[]⟩, .slice none 0 0, .slice none 0 0, .slice none 0 0, .slice none 0 0, .slice none 0 0] 31)).setCell ⟨g, 1, none⟩ (.int .i64 ((d : Int) + 1)) = w1 at *
 clear hW c1 f1 H1
 go_at_call 129
 refine (HC.out w1 ts HPl.out).mono ?_
 intro e w2 hE
 cases hcu : c ts with
 | error e2 =>
   rw [hcu] at hE
   obtain ⟨rfl, ho⟩ := hE
   first | exact ⟨rfl, rfl, ⟨only_two HO1.out ho.out⟩⟩ | exact ⟨rfl, ⟨only_two HO1.out ho.out⟩⟩
 | ok z =>
   obtain ⟨x, us⟩ := z
   rw [hcu] at hE
   obtain ⟨u, rfl, hu, hp, ho⟩ := hE
   have HRc := Kept.mk hcu
   clear hcu
   obtain ⟨k, q, n, A1, n1, k1, A2, n2, k2, A3, n3, k3, A4, n4, k4, A5, n5, k5, ws, gs, rs, os, ks, rfl, _, _, _⟩ := nv_parts hu.out
   obtain ⟨csx, hcsx⟩ : ∃ csx : Array Value, csx = #[.int .i64 k, .bool q, .string (bs n), .slice A1 n1 k1, .slice A2 n2 k2, .slice A3 n3 k3, .slice A4 n4 k4, .slice A5 n5 k5] := ⟨_, rfl⟩
   have HU := hu
   have HP2 := Kept.mk (hp.out.below ((Below.refl w2.heap.size w2).alloc (Nat.le_refl _) (.cells #[.int .i64 k, .bool q, .string (bs n), .slice A1 n1 k1, .slice A2 n2 k2, .slice A3 n3 k3, .slice A4 n4 k4, .slice A5 n5 k5] 31)))
   have c1 : _ = some (Value.int .i64 ((d : Int) + 1)) := HP2.out.c1.1
   have f1 := HP2.out.c1.2
   have hs1 := HO1.out.size
   have hs2 := ho.out.size
   have hrs : w.heap.size < w1.heap.size := (Array.getElem?_eq_some_iff.1 HRs.out).1
   have HB : Kept (BS w ((w2.alloc (.cells #[.int .i64 k, .bool q, .string (bs n), .slice A1 n1 k1, .slice A2 n2 k2, .slice A3 n3 k3, .slice A4 n4 k4, .slice A5 n5 k5] 31)).setCell ⟨g, 1, none⟩ (.int .i64 (d : Int))) g d w2.heap.size #[.int .i64 k, .bool q, .string (bs n), .slice A1 n1 k1, .slice A2 n2 k2, .slice A3 n3 k3, .slice A4 n4 k4, .slice A5 n5 k5] us) := ⟨by
     refine ⟨(Below.heap_setCell _ _ _ _ (by show w2.heap.size ≠ g; have := HGl.out; omega)).trans (heap_alloc_new w2 _), ⟨_, (Below.heap_setCell _ _ _ _ (by show w.heap.size ≠ g; have := HGl.out; omega)).trans ((Below.heap_alloc w2 _ _ (by omega)).trans ((ho.out.block _ hrs (by have := HGl.out; omega)).trans HRs.out)), rfl⟩, HP2.out.level d (by have := HD.out; omega), only_set ((only_two HO1.out ho.out).below ((Below.refl _ _).alloc (Nat.le_refl _) _)) 1 _, HGl.out, by omega⟩⟩
   have HN : Kept (NV (Nw w1.heap.size) ((w2.alloc (.cells #[.int .i64 k, .bool q, .string (bs n), .slice A1 n1 k1, .slice A2 n2 k2, .slice A3 n3 k3, .slice A4 n4 k4, .slice A5 n5 k5] 31)).setCell ⟨g, 1, none⟩ (.int .i64 (d : Int))) (.agg #[.int .i64 k, .bool q, .string (bs n), .slice A1 n1 k1, .slice A2 n2 k2, .slice A3 n3 k3, .slice A4 n4 k4, .slice A5 n5 k5]) x) := ⟨HU.out.same (fun b hP hl => ⟨hP, (Below.heap_setCell _ _ _ _ (by have : w1.heap.size ≤ b := hP; have := HGl.out; show b ≠ g; omega)).trans (Below.heap_alloc w2 _ b hl)⟩) (by simp [World.setCell])⟩
   have HSz : Kept (w.heap.size < w1.heap.size) := ⟨hrs⟩
   clear hu hp ho hs1 hs2 hrs hcsx
   go_upto_region 4 with fail
   generalize hW3 : (w2.alloc (.cells #[.int .i64 k, .bool q, .string (bs n), .slice A1 n1 k1, .slice A2 n2 k2, .slice A3 n3 k3, .slice A4 n4 k4, .slice A5 n5 k5] 31)).setCell ⟨g, 1, none⟩ (.int .i64 (d : Int)) = w3 at *
   clear hW3 c1 f1 HP2
   obtain ⟨old, hres, ho8⟩ := HB.out.res
   have HOld := Kept.mk hres
   have HDn := Kept.mk HB.out.done
   have HF := Kept.mk (fun cs : Array Value => nv_done HN.out HSz.out (Nat.le_of_lt HSz.out) cs)
   clear hres
   refine App.give (n := 5) (r := 4) (t := 22) (nt := 31) (rb := w.heap.size) HB.out.row HOld.out Tryz.underlying31 rfl (by kernel_rfl) ho8 (all_node _ _ _ _ _ _ _ _ _ _ _ _ _ _ _ _ _ _) rfl rfl (by decide) (by simp) ?_
   go_wp2_with fail
   refine bodyPost_ret (results_cell_row rfl _ _ w.heap.size _ _ (0, 0) _ rfl HDn.out.1 Tryz.underlying31 rfl (by kernel_rfl)) rfl ?_
   try unfold RE
   rw [HRc.out]
   exact ⟨_, rfl, ⟨HF.out _⟩, ⟨HDn.out.2.1⟩, ⟨HDn.out.2.2⟩⟩
set_option maxHeartbeats 8000000 in
set_option maxRecDepth 100000 in
theorem choice_any (w : World) (g d : Nat) (t0 : Tok) (ts : List Tok) (h : PM w g d (t0 :: ts)) (hd39 : d ≤ 39) (c b : List Tok → R Nd) (HC : Kept (InC g d c)) (HE : Kept (RdN 95 g (d + 1) b)) (R0 : R Nd) (hR0 : R0 = choice (list c) b ts) :
   Calls Tryz.prog 51 #[.pointer (some ⟨g, 0, none⟩)] w (RE w g d (nodR w) R0) := by
 have H := Kept.mk h
 have HGl := Kept.mk h.lt
 have HD39 := Kept.mk hd39
 have HR : Kept (R0 = andThen (upTo 0 kThen (list c false ts)) fun c1 r => andThen (list c false r) fun t1 r2 =>
   if isT 0 kElif r2 then andThen (b r2) fun k r3 => .ok (.mk 6 false [] [] [] [] [] [c1, t1, k], r3)
   else if isT 0 kElse r2 then upTo 0 kFi (andThen (list c false r2.tail) fun k r3 => .ok (.mk 6 false [] [] [] [] [] [c1, t1, k], r3))
   else upTo 0 kFi (.ok (.mk 6 false [] [] [] [] [] [c1, t1], r2))) := ⟨hR0⟩
 clear h hR0 hd39
 go_enter Tryz.func51, Tryz.ntmps51
 go_upto_region 3 with (first
   | (go_at_call 92; refine (skip_any _ g d t0 ts (H.out.below ((Below.refl _ _).alloc (Nat.le_refl _) _))).mono ?_; rintro e w1 ⟨rfl, hp, ho⟩; have HP1 := hp; have HO1 := ho; clear hp ho))
 have HB := Kept.mk (BS.hold (res_on HO1.out HGl.out rfl) HP1.out (only_alloc HO1.out) HGl.out #[.int .i64 6, .bool false, .string ⟨#[]⟩, .slice none 0 0, .slice none 0 0, .slice none 0 0, .slice none 0 0, .slice none 0 0])
 have HG : Kept (Gr (fun _ => False) (w1.alloc (.cells #[.int .i64 6, .bool false, .string ⟨#[]⟩, .slice none 0 0, .slice none 0 0, .slice none 0 0, .slice none 0 0, .slice none 0 0] 31)) (w1.heap.size + 1) 31 8 NC (.slice none 0 0) []) := ⟨Gr.nil nc_stable _ _ _ _ _⟩
 generalize hW : w1.alloc (.cells #[.int .i64 6, .bool false, .string ⟨#[]⟩, .slice none 0 0, .slice none 0 0, .slice none 0 0, .slice none 0 0, .slice none 0 0] 31) = w2 at *
 clear hW
 generalize hnb : w1.heap.size = nb at *
 clear hnb HP1 HO1
 obtain ⟨tiKids, zKids, hftKids⟩ := fitsKids (nb) g 91 (fun W => by kernel_rfl)
 have FTKids := Kept.mk hftKids
 clear hftKids
 have HZ : Kept (∀ b, (fun _ => False) b → b < w2.heap.size) := ⟨fun _ h => h.elim⟩
 refine grow nc_stable (n := 3) (p := 0) (t := 7) (fo := 7) (off := 7) (nt := 31) (lt := 29) (et := 31) (pt := 94) (rt := 31) (f := 91) (fun d _ _ _ _ h => by cases d <;> exact h) FTKids.out (by kernel_rfl) (by kernel_rfl) (by decide) (by decide) (by simp) rfl rfl HB.out.row rfl HG.out HB.out.pm HZ.out rfl (by have := HB.out.gn; have := HB.out.nr; omega) (by simp) (by decide) (fun W h => HC.out W ts h) valNode ?_ ?_
 · intro c1 wq he ho a' hd
   have hR := HR.out
   rw [he] at hR
   refine ⟨hd, ?_⟩
   rw [hR]
   exact ⟨rfl, ⟨only_two HB.out.only ho.out⟩⟩
 · intro x r hx w3 v' bz' u s q1 hrow hgr hpm hz1 hz2 hz3 honly hlies
   have HR2 : Kept (R0 = andThen (if isT 0 kThen r = true then .ok (x, r.tail) else .error 100) fun c1 r => andThen (list c false r) fun t1 r2 =>
     if isT 0 kElif r2 then andThen (b r2) fun k r3 => .ok (.mk 6 false [] [] [] [] [] [c1, t1, k], r3)
     else if isT 0 kElse r2 then upTo 0 kFi (andThen (list c false r2.tail) fun k r3 => .ok (.mk 6 false [] [] [] [] [] [c1, t1, k], r3))
     else upTo 0 kFi (.ok (.mk 6 false [] [] [] [] [] [c1, t1], r2))) := ⟨by rw [HR.out, hx]; rfl⟩
   have HB3 := Kept.mk (HB.out.grown hrow.out hpm.out honly.out (fun o h => by cases h))
   have HG3 := hgr
   have HZ3 := Kept.mk hz3
   clear hrow hpm honly hlies hz1 hz2 hz3 hgr HR hx HB HG HZ
   simp only [Act.put, List.setIfInBounds_toArray, List.set_cons_zero, List.set_cons_succ]
   cases ht : isT 0 kThen r with
   | false =>
     have HT := Kept.mk ht.symm
     obtain rfl : R0 = .error 100 := by rw [HR2.out, if_neg (by rw [ht]; decide)]; rfl
     clear ht
     go_wp2_with (first
       | (go_at_call 90; refine (expWord_any _ g d r ⟨#[116, 104, 101, 110]⟩ HB3.out.pm (by decide) false HT.out).mono ?_; rintro e w4 ⟨rfl, ho⟩))
     first | exact ⟨rfl, rfl, ⟨only_two HB3.out.only ho.out⟩⟩ | exact ⟨rfl, ⟨only_two HB3.out.only ho.out⟩⟩
   | true =>
     have HT := Kept.mk ht.symm
     have HR3 : Kept (R0 = andThen (list c false r.tail) fun t1 r2 =>
       if isT 0 kElif r2 then andThen (b r2) fun k r3 => .ok (.mk 6 false [] [] [] [] [] [x, t1, k], r3)
       else if isT 0 kElse r2 then upTo 0 kFi (andThen (list c false r2.tail) fun k r3 => .ok (.mk 6 false [] [] [] [] [] [x, t1, k], r3))
       else upTo 0 kFi (.ok (.mk 6 false [] [] [] [] [] [x, t1], r2))) := ⟨by rw [HR2.out, if_pos ht]; rfl⟩
     clear ht HR2
     go_upto_region 5 with (first
       | (go_at_call 90; refine (expWord_any _ g d r ⟨#[116, 104, 101, 110]⟩ HB3.out.pm (by decide) true HT.out).mono ?_; rintro e w4 ⟨u9, rfl, hu, hp, ho⟩; have hu : u9 = .tuple #[] := hu.out; subst hu; have HP4 := hp; have HO4 := ho; clear hp ho))
     have HB4 := Kept.mk (HB3.out.mv HO4.out HP4.out)
     have HG4 : Kept (Gr bz' w4 (nb + 1) 31 8 NC v' ([] ++ [x])) := ⟨HG3.out.on nc_stable (B := (· = g)) HO4.out (fun b h1 h2 => by have := HB3.out.gn; have := HB3.out.nr; omega) (fun o h1 h2 => by have := HG3.out.lt o h1; have := HB3.out.gn; have := HB3.out.nr; omega) (fun _ h => h) (fun _ _ h => h)⟩
     have HZ4 : Kept (∀ b, bz' b → b < w4.heap.size) := ⟨fun b h => Nat.lt_of_lt_of_le (HZ3.out b h) HO4.out.size⟩
     clear HB3 HG3 HZ3 HP4 HO4 HT
     refine grow nc_stable (n := 3) (p := 0) (t := 16) (fo := 7) (off := 7) (nt := 31) (lt := 29) (et := 31) (pt := 94) (rt := 31) (f := 91) (fun d _ _ _ _ h => by cases d <;> exact h) FTKids.out (by kernel_rfl) (by kernel_rfl) (by decide) (by decide) (by simp) rfl rfl HB4.out.row rfl HG4.out HB4.out.pm HZ4.out rfl (by have := HB4.out.gn; have := HB4.out.nr; omega) (by simp) (by decide) (fun W h => HC.out W _ h) valNode ?_ ?_
     · intro c1 wq he ho a' hd
       have hR := HR3.out
       rw [he] at hR
       refine ⟨hd, ?_⟩
       rw [hR]
       exact ⟨rfl, ⟨only_two HB4.out.only ho.out⟩⟩
     · intro y r2 hy w5 v2 bz2 u2 s2 q2 hrow hgr hpm hz1 hz2 hz3 honly hlies
       have HR4 : Kept (R0 = if isT 0 kElif r2 then andThen (b r2) fun k r3 => .ok (.mk 6 false [] [] [] [] [] [x, y, k], r3)
         else if isT 0 kElse r2 then upTo 0 kFi (andThen (list c false r2.tail) fun k r3 => .ok (.mk 6 false [] [] [] [] [] [x, y, k], r3))
         else upTo 0 kFi (.ok (.mk 6 false [] [] [] [] [] [x, y], r2))) := ⟨by rw [HR3.out, hy]; rfl⟩
       have HB5 := Kept.mk (HB4.out.grown hrow.out hpm.out honly.out (fun o h => by have := HG4.out.lt o h; omega))
       have HG5 := hgr
       have HZ5 := Kept.mk hz3
       clear hrow hpm honly hlies hz1 hz2 hz3 hgr HR3 hy HB4 HG4 HZ4
       simp only [Act.put, List.setIfInBounds_toArray, List.set_cons_zero, List.set_cons_succ]
       cases hel : isT 0 kElif r2 with
       | true =>
         have HT : Kept (true = decide (textT r2 = toL ⟨#[101, 108, 105, 102]⟩)) := ⟨hel.symm.trans (at_word HB5.out.pm.good (by decide)).symm⟩
         have HR5 : Kept (R0 = andThen (b r2) fun k r3 => .ok (.mk 6 false [] [] [] [] [] [x, y, k], r3)) := ⟨by rw [HR4.out, if_pos hel]⟩
         clear hel HR4
         go_upto_region 7 with (first
           | (go_at_call 93; refine (at_any _ g d r2 ⟨#[101, 108, 105, 102]⟩ HB5.out.pm true HT.out).mono ?_; rintro e w6 ⟨rfl, hb⟩; have HB6 := Kept.mk (HB5.out.below hb); have HBl : Kept (Only (· = g) w5 w6) := ⟨(Only.refl _ _).below hb⟩; clear hb))
         have HG6 : Kept (Gr bz2 w6 (nb + 1) 31 8 NC v2 ([] ++ [x] ++ [y])) := ⟨HG5.out.on nc_stable (B := (· = g)) HBl.out (fun b h1 h2 => by have := HB5.out.gn; have := HB5.out.nr; omega) (fun o h1 h2 => by have := HG5.out.lt o h1; have := HB5.out.gn; have := HB5.out.nr; omega) (fun _ h => h) (fun _ _ h => h)⟩
         have HZ6 : Kept (∀ b, bz2 b → b < w6.heap.size) := ⟨fun b h => Nat.lt_of_lt_of_le (HZ5.out b h) HBl.out.size⟩
         clear HB5 HG5 HZ5 HBl
         refine grow2 nc_stable (n := 3) (p := 0) (t := 25) (fo := 7) (off := 7) (nt := 31) (lt := 29) (et := 31) (pt := 94) (ft := 53) (rt := 31) (f := 94) (fn := 95) (fun d _ _ _ _ h => by cases d <;> exact h) FTKids.out (by kernel_rfl) (by kernel_rfl) (by kernel_rfl) (by kernel_rfl) (fun W => by kernel_rfl) (by decide) (by decide) (by simp) rfl rfl HB6.out.row rfl HG6.out HB6.out.pm HZ6.out rfl (by have := HB6.out.gn; have := HB6.out.nr; omega) (by simp) (by decide) (fun W h => deeper_elif W g d r2 h HD39.out (by intro e; have := HT.out; rw [e] at this; revert this; decide) b HE) valNode ?_ ?_
         · intro c1 wq he ho a' hd
           have hR := HR5.out
           rw [he] at hR
           refine ⟨hd, ?_⟩
           rw [hR]
           exact ⟨rfl, ⟨only_two HB6.out.only ho.out⟩⟩
         · intro z r3 hz w7 v3 bz3 u3 s3 q3 hrow hgr hpm hz1 hz2 hz3 honly hlies
           have HRes : Kept (R0 = .ok (.mk 6 false [] [] [] [] [] [x, y, z], r3)) := ⟨by rw [HR5.out, hz]; rfl⟩
           have HB7 := Kept.mk (HB6.out.grown hrow.out hpm.out honly.out (fun o h => by have := HG6.out.lt o h; omega))
           have HG7 := hgr
           clear hrow hpm honly hlies hz1 hz2 hz3 hgr HR5 hz HB6 HG6 HZ6
           obtain ⟨A5, k5, rfl⟩ := HG7.out.slice
           simp only [Act.put, List.setIfInBounds_toArray, List.set_cons_zero, List.set_cons_succ]
           go_upto_region 8 with fail
           obtain ⟨old, hres, ho8⟩ := HB7.out.res
           have HOld := Kept.mk hres
           have HD := Kept.mk HB7.out.done
           have HK := Kept.mk (fun cs : Array Value => nl_done (sl_nl (HG7.out.read nc_stable (by decide))) (r := w.heap.size) (n := w.heap.size) (by have := HB7.out.nr; omega) (by have := HB7.out.nr; omega) cs)
           clear hres
           refine App.give (n := 3) (r := 2) (t := 34) (nt := 31) (rb := w.heap.size) HB7.out.row HOld.out Tryz.underlying31 rfl (by kernel_rfl) ho8 (all_node _ _ _ _ _ _ _ _ _ _ _ _ _ _ _ _ _ _) rfl rfl (by decide) (by simp) ?_
           go_wp2_with fail
           refine bodyPost_ret (results_cell_row rfl _ _ w.heap.size _ _ (0, 0) _ rfl HD.out.1 Tryz.underlying31 rfl (by kernel_rfl)) rfl ?_
           rw [HRes.out]
           exact ⟨_, rfl, ⟨nv_kids (n := []) (HK.out _), rfl⟩, ⟨HD.out.2.1⟩, ⟨HD.out.2.2⟩⟩
       | false =>
         have HT : Kept (false = decide (textT r2 = toL ⟨#[101, 108, 105, 102]⟩)) := ⟨hel.symm.trans (at_word HB5.out.pm.good (by decide)).symm⟩
         rw [hel, if_neg (by decide)] at HR4
         clear hel
         cases hes : isT 0 kElse r2 with
         | true =>
           have HT2 : Kept (true = decide (textT r2 = toL ⟨#[101, 108, 115, 101]⟩)) := ⟨hes.symm.trans (at_word HB5.out.pm.good (by decide)).symm⟩
           have HR5 : Kept (R0 = upTo 0 kFi (andThen (list c false r2.tail) fun k r3 => .ok (.mk 6 false [] [] [] [] [] [x, y, k], r3))) := ⟨by rw [HR4.out, if_pos hes]⟩
           clear hes HR4
           go_upto_region 10 with (first
             | (go_at_call 93; refine (at_any _ g d r2 ⟨#[101, 108, 105, 102]⟩ HB5.out.pm false HT.out).mono ?_; rintro e w6 ⟨rfl, hb⟩; have HBx := Kept.mk (HB5.out.below hb); have HBl := Kept.mk hb; clear hb)
             | (go_at_call 96; refine (accept_any _ g d r2 ⟨#[101, 108, 115, 101]⟩ HBx.out.pm (by decide) true HT2.out).mono ?_; rintro e w7 ⟨rfl, hp, ho⟩; have HB6 := Kept.mk (HBx.out.mv ho.out hp.out); have HBm : Kept (Only (· = g) w5 w7) := ⟨only_below HBl.out ho.out⟩; clear hp ho))
           have HG6 : Kept (Gr bz2 w7 (nb + 1) 31 8 NC v2 ([] ++ [x] ++ [y])) := ⟨HG5.out.on nc_stable (B := (· = g)) HBm.out (fun b h1 h2 => by have := HB5.out.gn; have := HB5.out.nr; omega) (fun o h1 h2 => by have := HG5.out.lt o h1; have := HB5.out.gn; have := HB5.out.nr; omega) (fun _ h => h) (fun _ _ h => h)⟩
           have HZ6 : Kept (∀ b, bz2 b → b < w7.heap.size) := ⟨fun b h => Nat.lt_of_lt_of_le (HZ5.out b h) HBm.out.size⟩
           clear HB5 HG5 HZ5 HBl HBm HBx
           refine grow nc_stable (n := 3) (p := 0) (t := 37) (fo := 7) (off := 7) (nt := 31) (lt := 29) (et := 31) (pt := 94) (rt := 31) (f := 91) (fun d _ _ _ _ h => by cases d <;> exact h) FTKids.out (by kernel_rfl) (by kernel_rfl) (by decide) (by decide) (by simp) rfl rfl HB6.out.row rfl HG6.out HB6.out.pm HZ6.out rfl (by have := HB6.out.gn; have := HB6.out.nr; omega) (by simp) (by decide) (fun W h => HC.out W _ h) valNode ?_ ?_
           · intro c1 wq he ho a' hd
             have hR := HR5.out
             have he : list c false r2.tail = .error c1 := he
             rw [he] at hR
             refine ⟨hd, ?_⟩
             rw [hR]
             exact ⟨rfl, ⟨only_two HB6.out.only ho.out⟩⟩
           · intro z r3 hz w8 v3 bz3 u3 s3 q3 hrow hgr hpm hz1 hz2 hz3 honly hlies
             have hz : list c false r2.tail = .ok (z, r3) := hz
             have HR6 : Kept (R0 = if isT 0 kFi r3 = true then .ok (.mk 6 false [] [] [] [] [] [x, y, z], r3.tail) else .error 100) := ⟨by rw [HR5.out, hz]; rfl⟩
             have HB7 := Kept.mk (HB6.out.grown hrow.out hpm.out honly.out (fun o h => by have := HG6.out.lt o h; omega))
             have HG7 := hgr
             clear hrow hpm honly hlies hz1 hz2 hz3 hgr HR5 hz HB6 HG6 HZ6
             obtain ⟨A5, k5, rfl⟩ := HG7.out.slice
             simp only [Act.put, List.setIfInBounds_toArray, List.set_cons_zero, List.set_cons_succ]
             cases hfi : isT 0 kFi r3 with
             | false =>
               have HTf := Kept.mk hfi.symm
               obtain rfl : R0 = .error 100 := by rw [HR6.out, if_neg (by rw [hfi]; decide)]
               clear hfi
               go_wp2_with (first
                 | (go_at_call 90; refine (expWord_any _ g d r3 ⟨#[102, 105]⟩ HB7.out.pm (by decide) false HTf.out).mono ?_; rintro e w4 ⟨rfl, ho⟩))
               first | exact ⟨rfl, rfl, ⟨only_two HB7.out.only ho.out⟩⟩ | exact ⟨rfl, ⟨only_two HB7.out.only ho.out⟩⟩
             | true =>
               have HTf := Kept.mk hfi.symm
               have HRes : Kept (R0 = .ok (.mk 6 false [] [] [] [] [] [x, y, z], r3.tail)) := ⟨by rw [HR6.out, if_pos hfi]⟩
               clear hfi HR6
               go_upto_region 12 with (first
                 | (go_at_call 90; refine (expWord_any _ g d r3 ⟨#[102, 105]⟩ HB7.out.pm (by decide) true HTf.out).mono ?_; rintro e w9 ⟨u9, rfl, hu, hp, ho⟩; have hu : u9 = .tuple #[] := hu.out; subst hu; have HP4 := hp; have HO4 := ho; clear hp ho))
               have HB8 := Kept.mk (HB7.out.mv HO4.out HP4.out)
               have HG8 : Kept (Gr bz3 w9 (nb + 1) 31 8 NC _ ([] ++ [x] ++ [y] ++ [z])) := ⟨HG7.out.on nc_stable (B := (· = g)) HO4.out (fun b h1 h2 => by have := HB7.out.gn; have := HB7.out.nr; omega) (fun o h1 h2 => by have := HG7.out.lt o h1; have := HB7.out.gn; have := HB7.out.nr; omega) (fun _ h => h) (fun _ _ h => h)⟩
               obtain ⟨old, hres, ho8⟩ := HB8.out.res
               have HOld := Kept.mk hres
               have HD := Kept.mk HB8.out.done
               have HK := Kept.mk (fun cs : Array Value => nl_done (sl_nl (HG8.out.read nc_stable (by decide))) (r := w.heap.size) (n := w.heap.size) (by have := HB8.out.nr; omega) (by have := HB8.out.nr; omega) cs)
               clear hres
               refine App.give (n := 3) (r := 2) (t := 46) (nt := 31) (rb := w.heap.size) HB8.out.row HOld.out Tryz.underlying31 rfl (by kernel_rfl) ho8 (all_node _ _ _ _ _ _ _ _ _ _ _ _ _ _ _ _ _ _) rfl rfl (by decide) (by simp) ?_
               go_wp2_with fail
               refine bodyPost_ret (results_cell_row rfl _ _ w.heap.size _ _ (0, 0) _ rfl HD.out.1 Tryz.underlying31 rfl (by kernel_rfl)) rfl ?_
               rw [HRes.out]
               exact ⟨_, rfl, ⟨nv_kids (n := []) (HK.out _), rfl⟩, ⟨HD.out.2.1⟩, ⟨HD.out.2.2⟩⟩
         | false =>
           have HT2 : Kept (false = decide (textT r2 = toL ⟨#[101, 108, 115, 101]⟩)) := ⟨hes.symm.trans (at_word HB5.out.pm.good (by decide)).symm⟩
           have HR6 : Kept (R0 = if isT 0 kFi r2 = true then .ok (.mk 6 false [] [] [] [] [] [x, y], r2.tail) else .error 100) := ⟨by rw [HR4.out, if_neg (by rw [hes]; decide)]; rfl⟩
           clear hes HR4
           obtain ⟨A5, k5, rfl⟩ := HG5.out.slice
           cases hfi : isT 0 kFi r2 with
           | false =>
             have HTf := Kept.mk hfi.symm
             obtain rfl : R0 = .error 100 := by rw [HR6.out, if_neg (by rw [hfi]; decide)]
             clear hfi
             go_wp2_with (first
               | (go_at_call 93; refine (at_any _ g d r2 ⟨#[101, 108, 105, 102]⟩ HB5.out.pm false HT.out).mono ?_; rintro e w6 ⟨rfl, hb⟩; have HBx := Kept.mk (HB5.out.below hb); clear hb)
               | (go_at_call 96; refine (accept_any _ g d r2 ⟨#[101, 108, 115, 101]⟩ HBx.out.pm (by decide) false HT2.out).mono ?_; rintro e w7 ⟨rfl, hp, ho⟩; have HB6 := Kept.mk (HBx.out.mv ho.out hp.out); clear hp ho)
               | (go_at_call 90; refine (expWord_any _ g d r2 ⟨#[102, 105]⟩ HB6.out.pm (by decide) false HTf.out).mono ?_; rintro e w4 ⟨rfl, ho⟩))
             first | exact ⟨rfl, rfl, ⟨only_two HB6.out.only ho.out⟩⟩ | exact ⟨rfl, ⟨only_two HB6.out.only ho.out⟩⟩
           | true =>
             have HTf := Kept.mk hfi.symm
             have HRes : Kept (R0 = .ok (.mk 6 false [] [] [] [] [] [x, y], r2.tail)) := ⟨by rw [HR6.out, if_pos hfi]⟩
             clear hfi HR6
             go_upto_region 12 with (first
               | (go_at_call 93; refine (at_any _ g d r2 ⟨#[101, 108, 105, 102]⟩ HB5.out.pm false HT.out).mono ?_; rintro e w6 ⟨rfl, hb⟩; have HBx := Kept.mk (HB5.out.below hb); have HBl := Kept.mk hb; clear hb)
               | (go_at_call 96; refine (accept_any _ g d r2 ⟨#[101, 108, 115, 101]⟩ HBx.out.pm (by decide) false HT2.out).mono ?_; rintro e w7 ⟨rfl, hp, ho⟩; have HB6 := Kept.mk (HBx.out.mv ho.out hp.out); have HBm : Kept (Only (· = g) w5 w7) := ⟨only_below HBl.out ho.out⟩; clear hp ho)
               | (go_at_call 90; refine (expWord_any _ g d r2 ⟨#[102, 105]⟩ HB6.out.pm (by decide) true HTf.out).mono ?_; rintro e w9 ⟨u9, rfl, hu, hp, ho⟩; have hu : u9 = .tuple #[] := hu.out; subst hu; have HB8 := Kept.mk (HB6.out.mv ho.out hp.out); have HO4 : Kept (Only (· = g) w5 w9) := ⟨only_two HBm.out ho.out⟩; clear hp ho))
             have HG8 : Kept (Gr bz2 w9 (nb + 1) 31 8 NC _ ([] ++ [x] ++ [y])) := ⟨HG5.out.on nc_stable (B := (· = g)) HO4.out (fun b h1 h2 => by have := HB5.out.gn; have := HB5.out.nr; omega) (fun o h1 h2 => by have := HG5.out.lt o h1; have := HB5.out.gn; have := HB5.out.nr; omega) (fun _ h => h) (fun _ _ h => h)⟩
             obtain ⟨old, hres, ho8⟩ := HB8.out.res
             have HOld := Kept.mk hres
             have HD := Kept.mk HB8.out.done
             have HK := Kept.mk (fun cs : Array Value => nl_done (sl_nl (HG8.out.read nc_stable (by decide))) (r := w.heap.size) (n := w.heap.size) (by have := HB8.out.nr; omega) (by have := HB8.out.nr; omega) cs)
             clear hres
             refine App.give (n := 3) (r := 2) (t := 46) (nt := 31) (rb := w.heap.size) HB8.out.row HOld.out Tryz.underlying31 rfl (by kernel_rfl) ho8 (all_node _ _ _ _ _ _ _ _ _ _ _ _ _ _ _ _ _ _) rfl rfl (by decide) (by simp) ?_
             go_wp2_with fail
             refine bodyPost_ret (results_cell_row rfl _ _ w.heap.size _ _ (0, 0) _ rfl HD.out.1 Tryz.underlying31 rfl (by kernel_rfl)) rfl ?_
             rw [HRes.out]
             exact ⟨_, rfl, ⟨nv_kids (n := []) (HK.out _), rfl⟩, ⟨HD.out.2.1⟩, ⟨HD.out.2.2⟩⟩
end Sy
end
section
open Go.RowKit Tx
namespace Sy
open Lx (Tok tv tvs tvs_at Qt pan)
open Wx (Pt LV Nw parts)
theorem storeNode {w : World} {rb : Nat} {old cs : Array Value} {T : TypeId} (h : w.heap[rb]? = some (.cells old T (0, 0))) (h8 : old.size = 8) (hc : cs.size = 8) (h1 : cs.all (·.oneCell') = true) : (Instr.storeAt 31 (.pointer (some ⟨rb, 0, none⟩)) (.agg cs)).run Tryz.prog w = .ok () (w.setRow rb cs) := by
 simp only [Instr.storeAt, Instr.sureAddr, Sem.run_bind, Sem.run_pure, Result.andThen_ok]
 exact run_storeVar_row w rb T 31 old cs h (by rw [hc]; kernel_rfl) (by omega) h1
theorem elif_bad (w : World) (g d : Nat) (ts : List Tok) (h : PM w g d ts) (hd : 30 < d) :
   Calls Tryz.prog 95 #[.pointer (some ⟨g, 0, none⟩)] w (RE w g d (nodV w) (.error 2)) := by
 have H := Kept.mk h
 have c1 := (h.below ((Below.refl w.heap.size w).alloc (Nat.le_refl _) (.cells #[.int .i64 0, .bool false, .string ⟨#[]⟩, .slice none 0 0, .slice none 0 0, .slice none 0 0, .slice none 0 0, .slice none 0 0] 31))).c1.1
 have hz : ¬ (d : Int) ≤ 30 := by omega
 have hz2 : decide ((d : Int) ≤ 30) = false := decide_eq_false hz
 clear h hd hz
 go_enter Tryz.func95, Tryz.ntmps95
 go_wp2_with (first
   | (go_at_call 26
      try rw [hz2]
      refine (check_any _ false 2).mono ?_
      rintro e w3 ⟨rfl, rfl⟩))
 first | exact ⟨rfl, rfl, ⟨only_alloc (Only.refl _ _)⟩⟩ | exact ⟨rfl, ⟨only_alloc (Only.refl _ _)⟩⟩
set_option maxHeartbeats 4000000 in
set_option maxRecDepth 100000 in
theorem elif_any (w : World) (g d : Nat) (t0 : Tok) (ts : List Tok) (h : PM w g d (t0 :: ts)) (hd : d ≤ 30) (c b : List Tok → R Nd) (HC : Kept (InC g d c)) (HE : Kept (RdN 95 g (d + 1) b)) (R0 : R Nd) (hR0 : R0 = wrap (choice (list c) b ts)) :
   Calls Tryz.prog 95 #[.pointer (some ⟨g, 0, none⟩)] w (RE w g d (nodV w) R0) := by
 have H := Kept.mk (h.below ((Below.refl w.heap.size w).alloc (Nat.le_refl _) (.cells #[.int .i64 0, .bool false, .string ⟨#[]⟩, .slice none 0 0, .slice none 0 0, .slice none 0 0, .slice none 0 0, .slice none 0 0] 31)))
 have HGl := Kept.mk h.lt
 have HD := Kept.mk hd
 have c1 := H.out.c1.1
 have hz : (d : Int) ≤ 30 := by omega
 have hz2 : decide ((d : Int) ≤ 30) = true := decide_eq_true hz
 have HR : Kept (R0 = wrap (choice (list c) b ts)) := ⟨hR0⟩
 clear h hR0 hd hz
 go_enter Tryz.func95, Tryz.ntmps95
 go_wp2_with (first
   | (go_at_call 26
      try rw [hz2]
      clear hz2 c1
      refine (check_any _ true 2).mono ?_
      rintro e w3 ⟨rfl, rfl⟩))
 go_at_call 51
 refine (choice_any _ g d t0 ts H.out (by have := HD.out; omega) c b HC HE _ rfl).mono ?_
 intro e w2 hE
 cases hcu : choice (list c) b ts with
 | error e2 =>
   rw [hcu] at hE
   obtain ⟨rfl, ho⟩ := hE
   obtain rfl : R0 = .error e2 := by rw [HR.out, hcu]; rfl
   first | exact ⟨rfl, rfl, ⟨only_alloc ho.out⟩⟩ | exact ⟨rfl, ⟨only_alloc ho.out⟩⟩
 | ok z =>
   obtain ⟨x, us⟩ := z
   rw [hcu] at hE
   obtain ⟨u, rfl, hu, hp, ho⟩ := hE
   obtain ⟨k, q, n, A1, n1, k1, A2, n2, k2, A3, n3, k3, A4, n4, k4, A5, n5, k5, ws, gs, rs, os, ks, rfl, hxe, _, hkd⟩ := nv_parts hu.out.1
   have HRe : Kept (R0 = .ok (listN [x], us)) := ⟨by rw [HR.out, hcu]; rfl⟩
   obtain ⟨old, hres, ho8⟩ := res_on ho.out HGl.out rfl
   have hlt := (Array.getElem?_eq_some_iff.1 hres).1
   have hres2 : (w2.alloc (.cells #[.int .i64 k, .bool q, .string (bs n), .slice A1 n1 k1, .slice A2 n2 k2, .slice A3 n3 k3, .slice A4 n4 k4, .slice A5 n5 k5] 31)).heap[w.heap.size]? = some (.cells old 31 (0, 0)) := (Below.heap_alloc w2 _ _ hlt).trans hres
   have HRes2 := Kept.mk hres2
   have HO8 := Kept.mk ho8
   have HRow : Kept (((w2.alloc (.cells #[.int .i64 k, .bool q, .string (bs n), .slice A1 n1 k1, .slice A2 n2 k2, .slice A3 n3 k3, .slice A4 n4 k4, .slice A5 n5 k5] 31)).setRow w.heap.size #[.int .i64 3, .bool false, .string ⟨#[]⟩, .slice none 0 0, .slice none 0 0, .slice none 0 0, .slice none 0 0, .slice (some ⟨w2.heap.size, 0, none⟩) 1 1]).heap[w.heap.size]? = some (.cells #[.int .i64 3, .bool false, .string ⟨#[]⟩, .slice none 0 0, .slice none 0 0, .slice none 0 0, .slice none 0 0, .slice (some ⟨w2.heap.size, 0, none⟩) 1 1] 31 (0, 0))) := ⟨setRow_heap _ _ _ _ _ _ hres2⟩
   have hgl := HGl.out
   have HPf : Kept (PM ((w2.alloc (.cells #[.int .i64 k, .bool q, .string (bs n), .slice A1 n1 k1, .slice A2 n2 k2, .slice A3 n3 k3, .slice A4 n4 k4, .slice A5 n5 k5] 31)).setRow w.heap.size #[.int .i64 3, .bool false, .string ⟨#[]⟩, .slice none 0 0, .slice none 0 0, .slice none 0 0, .slice none 0 0, .slice (some ⟨w2.heap.size, 0, none⟩) 1 1]) g d us) := ⟨(hp.out.below ((Below.refl _ _).alloc (Nat.le_refl _) _)).low (fun i hi _ => setRow_other _ _ i _ (by omega)) (by rw [setRow_size]; exact Nat.le_refl _)⟩
   have hoA : Only (· = g) w (w2.alloc (.cells #[.int .i64 k, .bool q, .string (bs n), .slice A1 n1 k1, .slice A2 n2 k2, .slice A3 n3 k3, .slice A4 n4 k4, .slice A5 n5 k5] 31)) := (only_alloc ho.out).alloc _
   have HOf : Kept (Only (· = g) w ((w2.alloc (.cells #[.int .i64 k, .bool q, .string (bs n), .slice A1 n1 k1, .slice A2 n2 k2, .slice A3 n3 k3, .slice A4 n4 k4, .slice A5 n5 k5] 31)).setRow w.heap.size #[.int .i64 3, .bool false, .string ⟨#[]⟩, .slice none 0 0, .slice none 0 0, .slice none 0 0, .slice none 0 0, .slice (some ⟨w2.heap.size, 0, none⟩) 1 1])) := ⟨⟨hoA.os, hoA.tape, hoA.output, by rw [setRow_size]; exact hoA.size, fun i hi hn => (setRow_other _ _ i _ (by omega)).trans (hoA.block i hi hn)⟩⟩
   have hs1 : w.heap.size + 1 ≤ w2.heap.size := by omega
   have HN : Kept (NL (Nw w.heap.size) ((w2.alloc (.cells #[.int .i64 k, .bool q, .string (bs n), .slice A1 n1 k1, .slice A2 n2 k2, .slice A3 n3 k3, .slice A4 n4 k4, .slice A5 n5 k5] 31)).setRow w.heap.size #[.int .i64 3, .bool false, .string ⟨#[]⟩, .slice none 0 0, .slice none 0 0, .slice none 0 0, .slice none 0 0, .slice (some ⟨w2.heap.size, 0, none⟩) 1 1]) (.slice (some ⟨w2.heap.size, 0, none⟩) 1 1) [x]) := ⟨nl_done (nl_one (nv_up hu.out.1 (show w.heap.size + 1 ≤ (w.alloc _).heap.size by simp)) (by show _ ≤ _; omega)) (by omega) (by omega) _⟩
   clear hu hp ho hres hres2 hlt hxe hkd hoA hs1 hgl HR hcu ho8
   go_wp2_with (refine wpList_store_row rfl 31 _ _ rfl w.heap.size #[.int .i64 3, .bool false, .string ⟨#[]⟩, .slice none 0 0, .slice none 0 0, .slice none 0 0, .slice none 0 0, .slice (some ⟨w2.heap.size, 0, none⟩) 1 1] rfl rfl _ _ HRes2.out (by kernel_rfl) HO8.out (all_node _ _ _ _ _ _ _ _ _ _ _ _ _ _ _ _ _ _) ?_)
   refine bodyPost_ret (results_cell_row rfl _ _ w.heap.size _ _ (0, 0) _ rfl HRow.out Tryz.underlying31 rfl (by kernel_rfl)) rfl ?_
   rw [HRe.out]
   exact ⟨_, rfl, ⟨nv_kids (n := []) HN.out⟩, HPf, HOf⟩
end Sy
end
end Go.Proofs.YtahjonfmhejoeaaGreatDoor
