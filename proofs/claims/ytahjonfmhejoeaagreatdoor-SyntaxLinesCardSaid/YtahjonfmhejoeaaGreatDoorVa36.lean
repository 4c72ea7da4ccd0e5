/-
  Parts of the proof, merged.
-/
import Derived.Test.YtahjonfmhejoeaaGreatDoorVa35
namespace Go.Proofs.YtahjonfmhejoeaaGreatDoor
section
open Go.RowKit Tx
namespace Sy
open Lx (Tok tv tvs tvs_at Qt pan)
open Wx (Pt LV Nw parts)
theorem word_c (g d : Nat) (W : World) (ts : List Tok) (h : PM W g d ts) : Calls Tryz.prog 101 #[.pointer (some ⟨g, 0, none⟩)] W (RE W g d (fun w' => LV (Nw W.heap.size) w') (partsT ts)) := word_any W g d ts h _ rfl
theorem nv_wk {P : Nat → Prop} {w : World} {k : Int} {q : Bool} {n : List UInt8} {ws : List (List Pt)} {os : List (List UInt8)} {ks : List Nd} {A1 A4 A5 : Option Addr} {n1 n4 n5 k1 k4 k5 : Nat} (hw : SL P w (WC P w) (.slice A1 n1 k1) ws) (ho : SL P w (OCw P w) (.slice A4 n4 k4) os) (h : NL P w (.slice A5 n5 k5) ks) : NV P w (.agg #[.int .i64 k, .bool q, .string (bs n), .slice A1 n1 k1, .slice none 0 0, .slice none 0 0, .slice A4 n4 k4, .slice A5 n5 k5]) (.mk k q n ws [] [] os ks) :=
 .mk k q n ws [] [] os ks _ _ _ _ _ ⟨rfl, rfl, rfl, rfl, hw, sl_nil _ _ _, sl_nil _ _ _, ho⟩ rfl h
theorem BS.one {w0 w : World} {g d nb : Nat} {cs : Array Value} {us : List Tok} (h : BS w0 w g d nb cs us) (lit : Array Value) (off : Nat) (v : Value) : BS w0 ((w.alloc (.cells lit 31)).setCell ⟨nb, off, none⟩ v) g d nb (cs.setIfInBounds off v) us := by
 obtain ⟨old, hr, h8⟩ := h.res
 have h1 := h.nr
 have h2 := h.gn
 have hlt := (Array.getElem?_eq_some_iff.1 h.row).1
 have hrow : (w.alloc (.cells lit 31)).heap[nb]? = some (.cells cs 31 (0, 0)) := (Below.heap_alloc w _ nb hlt).trans h.row
 refine ⟨by have := heap_setCell_same _ nb off _ _ v hrow; simpa using this, ⟨old, (Below.heap_setCell _ _ _ _ (by show w0.heap.size ≠ nb; omega)).trans ((Below.heap_alloc w _ _ (Array.getElem?_eq_some_iff.1 hr).1).trans hr), h8⟩, (h.pm.below ((Below.refl _ _).alloc (Nat.le_refl _) _)).low (fun i hi _ => Below.heap_setCell _ _ _ i (by show i ≠ nb; omega)) (by simp [World.setCell]), ?_, h2, h1⟩
 exact (h.only.alloc _).setCell _ _ (fun hlt => by have : nb < w0.heap.size := hlt; omega)
theorem Gr.one {α : Type} {C : CellsOf α} (S : Stable C) {bz : Nat → Prop} {w : World} {nb size : Nat} {et : TypeId} {v : Value} {l : List α} (h : Gr bz w (nb + 1) et size C v l) (lit : Array Value) (off : Nat) (u : Value) : Gr bz ((w.alloc (.cells lit 31)).setCell ⟨nb, off, none⟩ u) (nb + 1) et size C v l :=
 h.on S (B := (· = nb)) (((Only.refl _ _).alloc _).setCell ⟨nb, off, none⟩ _ (fun _ => rfl)) (fun b h1 h2 => by omega) (fun o h1 h2 => by have := h.lt o h1; omega) (fun _ h => h) (fun _ _ h => h)
theorem nl_one2 {w : World} {cs : Array Value} {x : Nd} {m nb off : Nat} {v : Value} (h : NV (Nw m) w (.agg cs) x) (hn : nb < m) (hm : m ≤ w.heap.size) : NL (fun b => nb + 1 ≤ b) ((w.alloc (.cells cs 31)).setCell ⟨nb, off, none⟩ v) (.slice (some ⟨w.heap.size, 0, none⟩) 1 1) [x] :=
 (nl_one (P := fun b => nb + 1 ≤ b) (nv_up h (show nb + 1 ≤ m by omega)) (by show _ ≤ _; omega)).same (fun b hP _ => ⟨hP, Below.heap_setCell _ _ _ b (by show b ≠ nb; have : nb + 1 ≤ b := hP; omega)⟩) (by simp [World.setCell])
set_option maxHeartbeats 8000000 in
set_option maxRecDepth 100000 in
theorem item_any (w : World) (g d : Nat) (ts : List Tok) (h : PM w g d ts) (hd39 : d ≤ 39) (c : List Tok → R Nd) (HC : Kept (RdC 25 g (d + 1) (list c true))) (R0 : R Nd) (hR0 : R0 = item (list c) ts) :
   Calls Tryz.prog 102 #[.pointer (some ⟨g, 0, none⟩)] w (RE w g d (nodV w) R0) := by
 have HGl := Kept.mk h.lt
 have HD39 := Kept.mk hd39
 obtain ⟨q0, hq⟩ : ∃ q, q = isT 1 [40] ts := ⟨_, rfl⟩
 have HQ2 : Kept (q0 = decide (textT ts = toL ⟨#[40]⟩)) := ⟨hq.trans (at_op h.good (by decide)).symm⟩
 obtain ⟨us0, hus0⟩ : ∃ us0, us0 = if q0 then ts.tail else ts := ⟨_, rfl⟩
 have HR : Kept (R0 = andThen (partsT us0) fun w1 r => andThen (upTo 1 [41] (barsF (r.length + 1) [w1] r)) fun ws r2 => andThen (list c true r2) fun l r3 => .ok (.mk 10 false [] ws [] [] [] [l], r3)) := ⟨by rw [hR0, hus0, hq]; rfl⟩
 have hmf : ∀ (fn : Fn) (first cap : Array Value) (w : World), (Instr.makeFunc fn first cap).run Tryz.prog w = .ok (.func fn first cap) w := fun _ _ _ _ => rfl
 have HB0 := Kept.mk (BS.start h #[.int .i64 0, .bool false, .string ⟨#[]⟩, .slice none 0 0, .slice none 0 0, .slice none 0 0, .slice none 0 0, .slice none 0 0] #[.int .i64 10, .bool false, .string ⟨#[]⟩, .slice none 0 0, .slice none 0 0, .slice none 0 0, .slice none 0 0, .slice none 0 0] rfl)
 clear h hR0 hq hd39
 go_enter Tryz.func102, Tryz.ntmps102
 go_upto_region 3 with (first
   | (go_at_call 96; refine (accept_any _ g d ts ⟨#[40]⟩ HB0.out.pm (by decide) q0 HQ2.out).mono ?_; rintro e w2 ⟨rfl, hp, ho⟩; have HB := Kept.mk (HB0.out.mv ho.out hp.out); clear hp ho))
 rw [← hus0] at HB
 have HG : Kept (Gr (fun _ => False) w2 (w.heap.size + 1 + 1) 61 1 WC (.slice none 0 0) []) := ⟨Gr.nil wc_stable _ _ _ _ _⟩
 generalize hnb : w.heap.size + 1 = nb at *
 clear hnb HB0
 obtain ⟨tiWords, zWords, hftWords⟩ := fitsWords (nb) g 101 (fun W => by kernel_rfl)
 have FTWords := Kept.mk hftWords
 clear hftWords
 have HZ : Kept (∀ b, (fun _ => False) b → b < w2.heap.size) := ⟨fun _ h => h.elim⟩
 refine grow wc_stable (n := 3) (p := 0) (t := 7) (fo := 3) (off := 3) (nt := 31) (lt := 26) (et := 61) (pt := 94) (rt := 61) (f := 101) (fun d _ _ _ _ h => by cases d <;> exact h) FTWords.out (by kernel_rfl) (by kernel_rfl) (by decide) (by decide) (by simp) rfl rfl HB.out.row rfl HG.out HB.out.pm HZ.out rfl (by have := HB.out.gn; have := HB.out.nr; omega) (by simp) (by decide) (fun W h => word_c g d W us0 h) (val := fun W w9 => LV (Nw W.heap.size) w9) valWord ?_ ?_
 · intro c1 wq he ho a' hd
   have hR := HR.out
   rw [he] at hR
   refine ⟨hd, ?_⟩
   rw [hR]
   exact ⟨rfl, ⟨only_two HB.out.only ho.out⟩⟩
 · intro k0 r hx w3 v' bz' u s q1 hrow hgr hpm hz1 hz2 hz3 honly hlies
   have HR2 : Kept (R0 = andThen (upTo 1 [41] (barsF (r.length + 1) [k0] r)) fun ws r2 => andThen (list c true r2) fun l r3 => .ok (.mk 10 false [] ws [] [] [] [l], r3)) := ⟨by rw [HR.out, hx]; rfl⟩
   have HB3 := Kept.mk (HB.out.grown hrow.out hpm.out honly.out (fun o h => by cases h))
   have HG3 := hgr
   have HZ3 := Kept.mk hz3
   have HFew := Kept.mk HB3.out.pm.few
   clear hrow hpm honly hlies hz1 hz2 hz3 hgr HR hx HB HG HZ
   simp only [Act.put, List.setIfInBounds_toArray, List.set_cons_zero, List.set_cons_succ]
   go_wp2_with fail
   go_loopg [] r.length (fun m wr => ∃ us ws vw bz k, us.length ≤ m ∧ Kept (BS w wr g d nb #[.int .i64 10, .bool false, .string ⟨#[]⟩, vw, .slice none 0 0, .slice none 0 0, .slice none 0 0, .slice none 0 0] us) ∧ Kept (Gr bz wr (nb + 1) 61 1 WC vw ws) ∧ Kept (∀ b, bz b → b < wr.heap.size) ∧ Kept (ws.length + us.length ≤ 20001) ∧ Kept (us.length + 1 ≤ k) ∧ Kept (R0 = andThen (upTo 1 [41] (barsF k ws us)) fun ws r2 => andThen (list c true r2) fun l r3 => .ok (.mk 10 false [] ws [] [] [] [l], r3)))
   case atStart => exact ⟨r, [k0], v', bz', r.length + 1, Nat.le_refl _, HB3, HG3, HZ3, ⟨by have := HFew.out; simp; omega⟩, ⟨Nat.le_refl _⟩, HR2⟩
   case round =>
     obtain ⟨us, ws, vw, bz, k, hm, HB, HG, HZ, HKs, HN, HRr⟩ := hrel
     have HM := Kept.mk hm
     clear hm HR2 HB3 HG3 HZ3
     cases he : isT 1 [124] us with
     | false =>
       have HE : Kept (false = decide (textT us = toL ⟨#[124]⟩)) := ⟨he.symm.trans (at_op HB.out.pm.good (by decide)).symm⟩
       have HRes : Kept (R0 = andThen (if isT 1 [41] us = true then .ok (ws, us.tail) else .error 100) fun ws r2 => andThen (list c true r2) fun l r3 => .ok (.mk 10 false [] ws [] [] [] [l], r3)) := ⟨by
         rw [HRr.out]
         obtain ⟨k, rfl⟩ : ∃ j, k = j + 1 := ⟨k - 1, by have := HN.out; omega⟩
         rw [barsF, if_neg (by rw [he]; decide)]; rfl⟩
       clear he HRr
       cases hcl : isT 1 [41] us with
       | false =>
         have HTc := Kept.mk hcl.symm
         obtain rfl : R0 = .error 100 := by rw [HRes.out, if_neg (by rw [hcl]; decide)]; rfl
         clear hcl HRes
         go_wp2_with (first
           | (go_at_call 96; refine (accept_any _ g d us ⟨#[124]⟩ HB.out.pm (by decide) false HE.out).mono ?_; rintro e w4 ⟨rfl, hp, ho⟩; have HB4 := Kept.mk (HB.out.mv ho.out hp.out); clear hp ho)
           | (go_at_call 90; refine (expOp_any _ g d us ⟨#[41]⟩ HB4.out.pm (by decide) false HTc.out).mono ?_; rintro e w5 ⟨rfl, ho⟩))
         first | exact ⟨rfl, rfl, ⟨only_two HB4.out.only ho.out⟩⟩ | exact ⟨rfl, ⟨only_two HB4.out.only ho.out⟩⟩
       | true =>
         have HTc := Kept.mk hcl.symm
         have HRe3 : Kept (R0 = andThen (list c true us.tail) fun l r3 => .ok (.mk 10 false [] ws [] [] [] [l], r3)) := ⟨by rw [HRes.out, if_pos hcl]; rfl⟩
         clear hcl HRes
         go_wp2_with (first
           | (go_at_call 96; refine (accept_any _ g d us ⟨#[124]⟩ HB.out.pm (by decide) false HE.out).mono ?_; rintro e w4 ⟨rfl, hp, ho⟩; have HB4 := Kept.mk (HB.out.mv ho.out hp.out); have HOa := ho; clear hp ho)
           | (go_at_call 90; refine (expOp_any _ g d us ⟨#[41]⟩ HB4.out.pm (by decide) true HTc.out).mono ?_; rintro e w5 ⟨u9, rfl, hu, hp, ho⟩; have hu : u9 = .tuple #[] := hu.out; subst hu; have HB5 := Kept.mk (HB4.out.mv ho.out hp.out); have HOb : Kept (Only (· = g) wr w5) := ⟨only_two HOa.out ho.out⟩; clear hp ho))
         go_at_call 94
         have HG5 : Kept (Gr bz w5 (nb + 1) 61 1 WC vw ws) := ⟨HG.out.on wc_stable (B := (· = g)) HOb.out (fun b h1 h2 => by have := HB.out.gn; have := HB.out.nr; omega) (fun o h1 h2 => by have := HG.out.lt o h1; have := HB.out.gn; have := HB.out.nr; omega) (fun _ h => h) (fun _ _ h => h)⟩
         clear HB HG HB4 HOa HOb
         refine (deeper_list _ g d us.tail HB5.out.pm HD39.out (list c true) HC).mono ?_
         intro e w6 hE
         cases hcu : list c true us.tail with
         | error e2 =>
           rw [hcu] at hE
           obtain ⟨rfl, ho⟩ := hE
           obtain rfl : R0 = .error e2 := by rw [HRe3.out, hcu]; rfl
           first | exact ⟨rfl, rfl, ⟨only_two HB5.out.only ho.out⟩⟩ | exact ⟨rfl, ⟨only_two HB5.out.only ho.out⟩⟩
         | ok z =>
           obtain ⟨x, vs⟩ := z
           rw [hcu] at hE
           obtain ⟨u, rfl, hu, hp, ho⟩ := hE
           obtain ⟨k, q, n, A1, n1, k1, A2, n2, k2, A3, n3, k3, A4, n4, k4, A5, n5, k5, ws5, gs5, rs5, os5, ks5, rfl, hxe, _, hkd⟩ := nv_parts hu.out
           have HRe : Kept (R0 = .ok (.mk 10 false [] ws [] [] [] [x], vs)) := ⟨by rw [HRe3.out, hcu]; rfl⟩
           have HB6 := Kept.mk (HB5.out.mv ho.out hp.out)
           have HG6 : Kept (Gr bz w6 (nb + 1) 61 1 WC vw ws) := ⟨HG5.out.on wc_stable (B := (· = g)) ho.out (fun b h1 h2 => by have := HB5.out.gn; have := HB5.out.nr; omega) (fun o h1 h2 => by have := HG5.out.lt o h1; have := HB5.out.gn; have := HB5.out.nr; omega) (fun _ h => h) (fun _ _ h => h)⟩
           have hlt := (Array.getElem?_eq_some_iff.1 HB5.out.row).1
           have HK7 := Kept.mk (nl_one2 (nb := nb) (off := 7) (v := .slice (some ⟨w6.heap.size, 0, none⟩) 1 1) hu.out hlt ho.out.size)
           have HB7 := Kept.mk (HB6.out.one #[.int .i64 k, .bool q, .string (bs n), .slice A1 n1 k1, .slice A2 n2 k2, .slice A3 n3 k3, .slice A4 n4 k4, .slice A5 n5 k5] 7 (.slice (some ⟨w6.heap.size, 0, none⟩) 1 1))
           have HG7 := Kept.mk (HG6.out.one wc_stable #[.int .i64 k, .bool q, .string (bs n), .slice A1 n1 k1, .slice A2 n2 k2, .slice A3 n3 k3, .slice A4 n4 k4, .slice A5 n5 k5] 7 (.slice (some ⟨w6.heap.size, 0, none⟩) 1 1))
           have hlt6 := (Array.getElem?_eq_some_iff.1 HB6.out.row).1
           have c7 : (w6.alloc (.cells #[.int .i64 k, .bool q, .string (bs n), .slice A1 n1 k1, .slice A2 n2 k2, .slice A3 n3 k3, .slice A4 n4 k4, .slice A5 n5 k5] 31)).cell? ⟨nb, 7, none⟩ = some (.slice none 0 0) := cell_of_row _ _ 7 _ _ _ ((Below.heap_alloc w6 _ nb hlt6).trans HB6.out.row)
           have f7 : (w6.alloc (.cells #[.int .i64 k, .bool q, .string (bs n), .slice A1 n1 k1, .slice A2 n2 k2, .slice A3 n3 k3, .slice A4 n4 k4, .slice A5 n5 k5] 31)).frozen? ⟨nb, 7, none⟩ = false := frozen_of_row _ _ 7 _ _ ((Below.heap_alloc w6 _ nb hlt6).trans HB6.out.row)
           obtain ⟨A9, k9, rfl⟩ := HG7.out.slice
           clear hu hp ho hxe hkd hcu HRe3 HB5 HG5 HB6 HG6 hlt hlt6
           go_upto_region 8 with fail
           clear c7 f7
           generalize (w6.alloc (.cells #[.int .i64 k, .bool q, .string (bs n), .slice A1 n1 k1, .slice A2 n2 k2, .slice A3 n3 k3, .slice A4 n4 k4, .slice A5 n5 k5] 31)).setCell ⟨nb, 7, none⟩ (.slice (some ⟨w6.heap.size, 0, none⟩) 1 1) = w7 at *
           obtain ⟨old, hres, ho8⟩ := HB7.out.res
           have HOld := Kept.mk hres
           have HDn := Kept.mk HB7.out.done
           have HFw := Kept.mk (fun cs : Array Value => sl_done wc_stable (HG7.out.read wc_stable (by decide)) (r := w.heap.size) (n := w.heap.size) (by have := HB7.out.nr; omega) (by have := HB7.out.nr; omega) cs)
           have HFk := Kept.mk (fun cs : Array Value => nl_done HK7.out (r := w.heap.size) (n := w.heap.size) (by have := HB7.out.nr; omega) (by have := HB7.out.nr; omega) cs)
           clear hres
           refine App.give (n := 3) (r := 2) (t := 31) (nt := 31) (rb := w.heap.size) HB7.out.row HOld.out Tryz.underlying31 rfl (by kernel_rfl) ho8 (all_node _ _ _ _ _ _ _ _ _ _ _ _ _ _ _ _ _ _) rfl rfl (by decide) (by simp) ?_
           go_wp2_with fail
           refine bodyPost_ret (results_cell_row rfl _ _ w.heap.size _ _ (0, 0) _ rfl HDn.out.1 Tryz.underlying31 rfl (by kernel_rfl)) rfl ?_
           rw [HRe.out]
           exact ⟨_, rfl, ⟨nv_wk (n := []) (HFw.out _) (sl_nil _ _ _) (HFk.out _)⟩, ⟨HDn.out.2.1⟩, ⟨HDn.out.2.2⟩⟩
     | true =>
       have HE : Kept (true = decide (textT us = toL ⟨#[124]⟩)) := ⟨he.symm.trans (at_op HB.out.pm.good (by decide)).symm⟩
       have HRc : Kept (match partsT us.tail with | .error e => R0 = .error e | .ok (x, r2) => ∃ j, k = j + 1 ∧ r2.length < us.length ∧ R0 = andThen (upTo 1 [41] (barsF j (ws ++ [x]) r2)) fun ws r2 => andThen (list c true r2) fun l r3 => .ok (.mk 10 false [] ws [] [] [] [l], r3)) := ⟨by
         obtain ⟨j, rfl⟩ : ∃ j, k = j + 1 := ⟨k - 1, by have := HN.out; omega⟩
         have := HRr.out
         rw [barsF, if_pos he] at this
         cases hcu : partsT us.tail with
         | error e => rw [hcu] at this; exact this
         | ok z =>
           rw [hcu] at this
           exact ⟨j, rfl, by have := partsT_lt _ _ _ hcu; have := tail_le us; omega, this⟩⟩
       clear he HRr
       go_upto_region 5 with (first
         | (go_at_call 96; refine (accept_any _ g d us ⟨#[124]⟩ HB.out.pm (by decide) true HE.out).mono ?_; rintro e w4 ⟨rfl, hp, ho⟩; have HPe := hp; have HOe := ho; clear hp ho))
       have HB4 := Kept.mk (HB.out.mv HOe.out HPe.out)
       have HG4 : Kept (Gr bz w4 (nb + 1) 61 1 WC vw ws) := ⟨HG.out.on wc_stable (B := (· = g)) HOe.out (fun b h1 h2 => by have := HB.out.gn; have := HB.out.nr; omega) (fun o h1 h2 => by have := HG.out.lt o h1; have := HB.out.gn; have := HB.out.nr; omega) (fun _ h => h) (fun _ _ h => h)⟩
       have HZ4 : Kept (∀ b, bz b → b < w4.heap.size) := ⟨fun b h => Nat.lt_of_lt_of_le (HZ.out b h) HOe.out.size⟩
       clear HB HG HZ HOe HPe
       refine grow wc_stable (n := 3) (p := 0) (t := 16) (fo := 3) (off := 3) (nt := 31) (lt := 26) (et := 61) (pt := 94) (rt := 61) (f := 101) (fun d _ _ _ _ h => by cases d <;> exact h) FTWords.out (by kernel_rfl) (by kernel_rfl) (by decide) (by decide) (by simp) rfl rfl HB4.out.row rfl HG4.out HB4.out.pm HZ4.out rfl (by have := HB4.out.gn; have := HB4.out.nr; omega) (by have := HKs.out; omega) (by decide) (fun W h => word_c g d W us.tail h) (val := fun W w9 => LV (Nw W.heap.size) w9) valWord ?_ ?_
       · intro e w6 he ho a' hd
         have hR := HRc.out
         rw [he] at hR
         refine ⟨hd, ?_⟩
         rw [hR]
         exact ⟨rfl, ⟨only_two HB4.out.only ho.out⟩⟩
       · intro x r2 hx w6 v2 bz2 u2 s2 q2 hrow hgr hpm hz1 hz2 hz3 honly hlies
         have hR := HRc.out
         rw [hx] at hR
         obtain ⟨j, rfl, hlt, hRj⟩ := hR
         have HRj := Kept.mk hRj
         have HLt2 := Kept.mk hlt
         have HB5 := Kept.mk (HB4.out.grown hrow.out hpm.out honly.out (fun o h => by have := HG4.out.lt o h; omega))
         have HG5 := hgr
         have HZ5 := Kept.mk hz3
         clear hrow hpm honly hlies hz1 hz2 hz3 hRj hlt hgr HRc hx
         simp only [Act.put, List.setIfInBounds_toArray, List.set_cons_zero, List.set_cons_succ]
         go_wp2_with fail
         go_roundg r2.length
         case measure => have := HM.out; have := HLt2.out; omega
         case rel => exact ⟨r2, ws ++ [x], v2, bz2, j, Nat.le_refl _, HB5, HG5, HZ5, ⟨by have := HKs.out; have := HLt2.out; rw [List.length_append, List.length_singleton]; omega⟩, ⟨by have := HN.out; have := HLt2.out; omega⟩, HRj⟩
end Sy
end
section
open Go.RowKit Tx
namespace Sy
open Lx (Tok tv tvs tvs_at Qt pan)
open Wx (Pt LV Nw parts)
theorem sl_on {α : Type} {C : CellsOf α} (S : Stable C) {P B : Nat → Prop} {w w' : World} {v : Value} {l : List α} (h : SL P w (C P w) v l) (ho : Only B w w') (hB : ∀ b, P b → ¬ B b) : SL P w' (C P w') v l :=
 h.same (fun b hP hl => ⟨hP, ho.block b hl (hB b hP)⟩) ho.size fun _ _ hc => S.same (fun b hP hl => ⟨hP, ho.block b hl (hB b hP)⟩) ho.size hc
theorem sl_word {w : World} {m : Nat} {A : Option Addr} {n k : Nat} {x : List Pt} (h : LV (Nw m) w (.slice A n k) x) (hm : m ≤ w.heap.size) : SL (fun b => m ≤ b ∧ b < w.heap.size + 1) (w.alloc (.cells #[.slice A n k] 61)) (WC (fun b => m ≤ b ∧ b < w.heap.size + 1) (w.alloc (.cells #[.slice A n k] 61))) (.slice (some ⟨w.heap.size, 0, none⟩) 1 1) [x] := by
 refine .at w.heap.size 0 1 1 [.slice A n k] [x] rfl (Nat.le_refl _) ⟨hm, by omega⟩ (by simp) (fun j u hu => ?_) (.cons _ _ _ _ rfl (h.same (fun b hP hl => ⟨⟨hP, by omega⟩, Below.heap_alloc w _ b hl⟩) (by simp)) .nil)
 rw [Nat.zero_add, cell_of_row _ _ j _ _ (0, 0) (heap_alloc_new w _)]
 simpa using hu
def ItC (g d : Nat) (L : Bool → List Tok → R Nd) : Prop := ∀ W us, PM W g d us → Calls Tryz.prog 102 #[.pointer (some ⟨g, 0, none⟩)] W (RE W g d (nodV W) (item L us))
theorem sl_fin {α : Type} {C : CellsOf α} (S : Stable C) {w : World} {r nb : Nat} {v : Value} {l : List α} (h : SL (fun b => r + 1 ≤ b ∧ b < nb) w (C (fun b => r + 1 ≤ b ∧ b < nb) w) v l) (cs : Array Value) : SL (Nw r) (w.setRow r cs) (C (Nw r) (w.setRow r cs)) v l :=
 h.same (fun b hP _ => ⟨show r ≤ b by omega, setRow_other _ _ b _ (by omega)⟩) (by rw [setRow_size]; exact Nat.le_refl _) fun _ _ hc => S.same (fun b hP _ => ⟨show r ≤ b by omega, setRow_other _ _ b _ (by omega)⟩) (by rw [setRow_size]; exact Nat.le_refl _) hc
set_option maxHeartbeats 8000000 in
set_option maxRecDepth 100000 in
theorem cases_any (w : World) (g d : Nat) (ts : List Tok) (h : PM w g d ts) (ht : isT 0 kCase ts = true) (L : Bool → List Tok → R Nd) (hL : Lt (item L)) (HC : Kept (ItC g d L)) (R0 : R Nd) (hR0 : R0 = cases L ts.tail) :
   Calls Tryz.prog 54 #[.pointer (some ⟨g, 0, none⟩)] w (RE w g d (nodR w) R0) := by
 have H := Kept.mk h
 have HGl := Kept.mk h.lt
 have HLt := Kept.mk hL
 have HT := Kept.mk ht.symm
 have HR : Kept (R0 = andThen (partsT ts.tail) fun x0 r => if isT 0 kIn (lines r) = true then match itemsF L (r.length + 1) [] (lines (lines r).tail) with | .error e => .error e | .ok (ks, r2) => .ok (.mk 9 false [] [x0] [] [] [] ks, r2) else .error 100) := ⟨by
   rw [hR0]
   unfold cases
   refine andThen_eq fun x0 r _ => ?_
   split
   · cases itemsF L (r.length + 1) [] (lines (lines r).tail) <;> rfl
   · rfl⟩
 clear h hR0 ht hL
 go_enter Tryz.func54, Tryz.ntmps54
 go_wp2_with (first
   | (go_at_call 90; refine (expWord_any _ g d ts ⟨#[99, 97, 115, 101]⟩ (H.out.below ((Below.refl _ _).alloc (Nat.le_refl _) _)) (by decide) true HT.out).mono ?_; rintro e w1 ⟨u9, rfl, hu, hp, ho⟩; have hu : u9 = .tuple #[] := hu.out; subst hu; have HP1 := hp; have HO1 := ho; clear hp ho))
 go_at_call 101
 refine (word_any _ g d ts.tail HP1.out _ rfl).mono ?_
 intro e w2 hE
 have HA : Kept (Only (· = g) w w1) := ⟨only_alloc HO1.out⟩
 cases hcu : partsT ts.tail with
 | error e2 =>
   rw [hcu] at hE
   obtain ⟨rfl, ho⟩ := hE
   obtain rfl : R0 = .error e2 := by rw [HR.out, hcu]; rfl
   first | exact ⟨rfl, rfl, ⟨only_two HA.out ho.out⟩⟩ | exact ⟨rfl, ⟨only_two HA.out ho.out⟩⟩
 | ok z =>
   obtain ⟨x0, r⟩ := z
   rw [hcu] at hE
   obtain ⟨u, rfl, hu, hp, ho⟩ := hE
   obtain ⟨A, k, rfl⟩ := hu.out.slice
   have HR2 : Kept (R0 = if isT 0 kIn (lines r) = true then match itemsF L (r.length + 1) [] (lines (lines r).tail) with | .error e => .error e | .ok (ks, r2) => .ok (.mk 9 false [] [x0] [] [] [] ks, r2) else .error 100) := ⟨by rw [HR.out, hcu]; rfl⟩
   have hs1 : w.heap.size + 1 ≤ w1.heap.size := by have := HO1.out.size; simpa using this
   generalize hxl : x0.length = xl at *
   have hws := (sl_word hu.out ho.out.size)
   have HW : Kept (SL (fun b => w.heap.size + 1 ≤ b ∧ b < w2.heap.size + 1) ((w2.alloc (.cells #[.slice A xl k] 61)).alloc (.cells #[.int .i64 9, .bool false, .string ⟨#[]⟩, .slice (some ⟨w2.heap.size, 0, none⟩) 1 1, .slice none 0 0, .slice none 0 0, .slice none 0 0, .slice none 0 0] 31)) (WC (fun b => w.heap.size + 1 ≤ b ∧ b < w2.heap.size + 1) ((w2.alloc (.cells #[.slice A xl k] 61)).alloc (.cells #[.int .i64 9, .bool false, .string ⟨#[]⟩, .slice (some ⟨w2.heap.size, 0, none⟩) 1 1, .slice none 0 0, .slice none 0 0, .slice none 0 0, .slice none 0 0] 31))) (.slice (some ⟨w2.heap.size, 0, none⟩) 1 1) [x0]) := ⟨by
     have hk : ∀ b, w1.heap.size ≤ b ∧ b < w2.heap.size + 1 → b < (w2.alloc (.cells #[.slice A xl k] 61)).heap.size → (w.heap.size + 1 ≤ b ∧ b < w2.heap.size + 1) ∧ ((w2.alloc (.cells #[.slice A xl k] 61)).alloc (.cells #[.int .i64 9, .bool false, .string ⟨#[]⟩, .slice (some ⟨w2.heap.size, 0, none⟩) 1 1, .slice none 0 0, .slice none 0 0, .slice none 0 0, .slice none 0 0] 31)).heap[b]? = (w2.alloc (.cells #[.slice A xl k] 61)).heap[b]? := fun b hb hl => ⟨⟨by omega, hb.2⟩, Below.heap_alloc _ _ b hl⟩
     exact hws.same hk (by simp) fun _ _ hc => wc_stable.same hk (by simp) hc⟩
   have HB := Kept.mk (bs_hold2 (res_on (only_two HO1.out ho.out) HGl.out rfl) hp.out (only_two HA.out ho.out) HGl.out (.cells #[.slice A xl k] 61) #[.int .i64 9, .bool false, .string ⟨#[]⟩, .slice (some ⟨w2.heap.size, 0, none⟩) 1 1, .slice none 0 0, .slice none 0 0, .slice none 0 0, .slice none 0 0])
   clear hu hp ho HR hcu hws hs1 hxl HA HO1 HP1
   go_upto_region 3 with fail
   generalize (w2.alloc (.cells #[.slice A xl k] 61)).alloc (.cells #[.int .i64 9, .bool false, .string ⟨#[]⟩, .slice (some ⟨w2.heap.size, 0, none⟩) 1 1, .slice none 0 0, .slice none 0 0, .slice none 0 0, .slice none 0 0] 31) = w3 at *
   generalize hvw : Value.slice (some ⟨w2.heap.size, 0, none⟩) 1 1 = vw at *
   generalize w2.heap.size + 1 = nb at *
   clear hvw
   cases hin : isT 0 kIn (lines r) with
   | false =>
     have HTi := Kept.mk hin.symm
     obtain rfl : R0 = .error 100 := by rw [HR2.out, if_neg (by rw [hin]; decide)]
     clear hin HR2
     go_wp2_with (first
       | (go_at_call 55; refine (skipLines_any _ g d r HB.out.pm).mono ?_; rintro e w4 ⟨rfl, hp, ho⟩; have HB4 := Kept.mk (HB.out.mv ho.out hp.out); clear hp ho)
       | (go_at_call 90; refine (expWord_any _ g d (lines r) ⟨#[105, 110]⟩ HB4.out.pm (by decide) false HTi.out).mono ?_; rintro e w5 ⟨rfl, ho⟩))
     first | exact ⟨rfl, rfl, ⟨only_two HB4.out.only ho.out⟩⟩ | exact ⟨rfl, ⟨only_two HB4.out.only ho.out⟩⟩
   | true =>
     have HTi := Kept.mk hin.symm
     have HR3 : Kept (R0 = match itemsF L (r.length + 1) [] (lines (lines r).tail) with | .error e => .error e | .ok (ks, r2) => .ok (.mk 9 false [] [x0] [] [] [] ks, r2)) := ⟨by rw [HR2.out, if_pos hin]⟩
     clear hin HR2
     have T1 : Kept True := ⟨trivial⟩
     have HLe : Kept ((lines (lines r).tail).length ≤ r.length) := ⟨by have := lines_le (lines r).tail; have := tail_le (lines r); have := lines_le r; omega⟩
     have HFr := Kept.mk HB.out.pm.few
     go_wp2_with (first
       | (go_at_call 55; have := T1; clear T1; refine (skipLines_any _ g d r HB.out.pm).mono ?_; rintro e w4 ⟨rfl, hp, ho⟩; have HB4 := Kept.mk (HB.out.mv ho.out hp.out); have HOa := ho; clear hp ho this)
       | (go_at_call 90; refine (expWord_any _ g d (lines r) ⟨#[105, 110]⟩ HB4.out.pm (by decide) true HTi.out).mono ?_; rintro e w5 ⟨u9, rfl, hu, hp, ho⟩; have hu : u9 = .tuple #[] := hu.out; subst hu; have HB5 := Kept.mk (HB4.out.mv ho.out hp.out); have HOb : Kept (Only (· = g) w3 w5) := ⟨only_two HOa.out ho.out⟩; clear hp ho)
       | (go_at_call 55; refine (skipLines_any _ g d (lines r).tail HB5.out.pm).mono ?_; rintro e w6 ⟨rfl, hp, ho⟩; have HB6 := Kept.mk (HB5.out.mv ho.out hp.out); have HOc : Kept (Only (· = g) w3 w6) := ⟨only_two HOb.out ho.out⟩; clear hp ho))
     have HW6 := Kept.mk (sl_on wc_stable HW.out HOc.out (fun b hP e => by have := HB.out.gn; omega))
     clear HB HB4 HB5 HOa HOb HOc HW
     obtain ⟨tiKids, zKids, hftKids⟩ := fitsKids (nb) g 102 (fun W => by kernel_rfl)
     have FTKids := Kept.mk hftKids
     clear hftKids
     go_loopg [] r.length (fun m wr => ∃ us ks vk bz k, us.length ≤ m ∧ Kept (BS w wr g d nb #[.int .i64 9, .bool false, .string ⟨#[]⟩, vw, .slice none 0 0, .slice none 0 0, .slice none 0 0, vk] us) ∧ Kept (SL (fun b => w.heap.size + 1 ≤ b ∧ b < nb) wr (WC (fun b => w.heap.size + 1 ≤ b ∧ b < nb) wr) vw [x0]) ∧ Kept (Gr bz wr (nb + 1) 31 8 NC vk ks) ∧ Kept (∀ b, bz b → b < wr.heap.size) ∧ Kept (ks.length + us.length ≤ 20000) ∧ Kept (us.length + 1 ≤ k) ∧ Kept (R0 = match itemsF L k ks us with | .error e => .error e | .ok (ks, r2) => .ok (.mk 9 false [] [x0] [] [] [] ks, r2)))
     case atStart => exact ⟨_, [], .slice none 0 0, fun _ => False, r.length + 1, HLe.out, HB6, HW6, ⟨Gr.nil nc_stable _ _ _ _ _⟩, ⟨fun _ h => h.elim⟩, ⟨by have := HFr.out; have := HLe.out; simp; omega⟩, ⟨by have := HLe.out; omega⟩, HR3⟩
     case round =>
       obtain ⟨us, ks, vk, bz, k, hm, HB, HW, HG, HZ, HKs, HN, HRr⟩ := hrel
       have HM := Kept.mk hm
       clear hm HR3 HB6 HW6 HLe HFr
       cases he : isT 0 kEsac us with
       | true =>
         have HE : Kept (true = decide (textT us = toL ⟨#[101, 115, 97, 99]⟩)) := ⟨he.symm.trans (at_word HB.out.pm.good (by decide)).symm⟩
         have HE2 : Kept (true = isT 0 kEsac us) := ⟨he.symm⟩
         have HRes : Kept (R0 = .ok (.mk 9 false [] [x0] [] [] [] ks, us.tail)) := ⟨by
           rw [HRr.out]
           obtain ⟨k, rfl⟩ : ∃ j, k = j + 1 := ⟨k - 1, by have := HN.out; omega⟩
           rw [itemsF, if_pos he]⟩
         clear he HRr
         go_upto_region 11 with (first
           | (go_at_call 93; refine (at_any _ g d us ⟨#[101, 115, 97, 99]⟩ HB.out.pm true HE.out).mono ?_; rintro e w7 ⟨rfl, hb⟩; have HB8 := Kept.mk (HB.out.below hb); have HOa := Kept.mk hb; clear hb)
           | (go_at_call 90; refine (expWord_any _ g d us ⟨#[101, 115, 97, 99]⟩ HB8.out.pm (by decide) true HE2.out).mono ?_; rintro e w8 ⟨u9, rfl, hu, hp, ho⟩; have hu : u9 = .tuple #[] := hu.out; subst hu; have HB9 := Kept.mk (HB8.out.mv ho.out hp.out); have HO9 : Kept (Only (· = g) wr w8) := ⟨only_below HOa.out ho.out⟩; clear hp ho))
         have HG9 : Kept (Gr bz w8 (nb + 1) 31 8 NC vk ks) := ⟨HG.out.on nc_stable (B := (· = g)) HO9.out (fun b h1 h2 => by have := HB.out.gn; have := HB.out.nr; omega) (fun o h1 h2 => by have := HG.out.lt o h1; have := HB.out.gn; have := HB.out.nr; omega) (fun _ h => h) (fun _ _ h => h)⟩
         have HW9 := Kept.mk (sl_on wc_stable HW.out HO9.out (fun b hP e => by have := HB.out.gn; omega))
         clear HB HG HZ HB8 HOa HO9 HW
         obtain ⟨A5, k5, rfl⟩ := HG9.out.slice
         obtain ⟨A1, k1, rfl⟩ := HW9.out.slice
         have HFw := Kept.mk (fun cs : Array Value => sl_fin wc_stable HW9.out (r := w.heap.size) cs)
         obtain ⟨old, hres, ho8⟩ := HB9.out.res
         have HOld := Kept.mk hres
         have HD := Kept.mk HB9.out.done
         have HK := Kept.mk (fun cs : Array Value => nl_done (sl_nl (HG9.out.read nc_stable (by decide))) (r := w.heap.size) (n := w.heap.size) (by have := HB9.out.nr; omega) (by have := HB9.out.nr; omega) cs)
         clear hres
         refine App.give (n := 3) (r := 2) (t := 33) (nt := 31) (rb := w.heap.size) HB9.out.row HOld.out Tryz.underlying31 rfl (by kernel_rfl) ho8 (all_node _ _ _ _ _ _ _ _ _ _ _ _ _ _ _ _ _ _) rfl rfl (by decide) (by simp) ?_
         go_wp2_with fail
         refine bodyPost_ret (results_cell_row rfl _ _ w.heap.size _ _ (0, 0) _ rfl HD.out.1 Tryz.underlying31 rfl (by kernel_rfl)) rfl ?_
         rw [HRes.out]
         exact ⟨_, rfl, ⟨nv_wk (n := []) (HFw.out _) (sl_nil _ _ _) (HK.out _), rfl⟩, ⟨HD.out.2.1⟩, ⟨HD.out.2.2⟩⟩
       | false =>
         have HE : Kept (false = decide (textT us = toL ⟨#[101, 115, 97, 99]⟩)) := ⟨he.symm.trans (at_word HB.out.pm.good (by decide)).symm⟩
         have HRc : Kept (match item L us with | .error e => R0 = .error e | .ok (x, r2) => ∃ j, k = j + 1 ∧ r2.length < us.length ∧ R0 = if isT 1 [59, 59] r2 = true then (match itemsF L j (ks ++ [x]) (lines r2.tail) with | .error e => .error e | .ok (ks, r2) => .ok (.mk 9 false [] [x0] [] [] [] ks, r2)) else if isT 0 kEsac r2 = true then .ok (.mk 9 false [] [x0] [] [] [] (ks ++ [x]), r2.tail) else .error 100) := ⟨by
           obtain ⟨j, rfl⟩ : ∃ j, k = j + 1 := ⟨k - 1, by have := HN.out; omega⟩
           have := HRr.out
           rw [itemsF, if_neg (by rw [he]; decide)] at this
           cases hcu : item L us with
           | error e => rw [hcu] at this; exact this
           | ok z =>
             rw [hcu] at this
             obtain ⟨x, r2⟩ := z
             dsimp only at this
             have hlt := HLt.out _ _ _ hcu
             refine ⟨j, rfl, hlt, ?_⟩
             rw [this]
             by_cases h1 : isT 1 [59, 59] r2 = true
             · rw [if_pos h1, if_pos h1]
             · rw [if_neg h1, if_neg h1]
               by_cases h2 : isT 0 kEsac r2 = true
               · rw [if_pos h2, if_pos h2]
                 have hl : lines r2 = r2 := lines_not (by
                   cases r2 with
                   | nil => rfl
                   | cons t r3 =>
                     have h2 : (t.kind == 0 && t.text == kEsac) = true := h2
                     rw [Bool.and_eq_true, beq_iff_eq] at h2
                     show (t.kind == 2 && _) = false
                     rw [h2.1]; rfl)
                 obtain ⟨i, rfl⟩ : ∃ i, j = i + 1 := ⟨j - 1, by have := HN.out; have := isT_pos h2; omega⟩
                 rw [hl, itemsF, if_pos h2]
               · rw [if_neg h2, if_neg h2]⟩
         clear he HRr
         go_upto_region 7 with (first
           | (go_at_call 93; refine (at_any _ g d us ⟨#[101, 115, 97, 99]⟩ HB.out.pm false HE.out).mono ?_; rintro e w7 ⟨rfl, hb⟩; have HB4 := Kept.mk (HB.out.below hb); have HOe : Kept (Only (· = g) wr w7) := ⟨(Only.refl _ _).below hb⟩; clear hb))
         have HG4 : Kept (Gr bz w7 (nb + 1) 31 8 NC vk ks) := ⟨HG.out.on nc_stable (B := (· = g)) HOe.out (fun b h1 h2 => by have := HB.out.gn; have := HB.out.nr; omega) (fun o h1 h2 => by have := HG.out.lt o h1; have := HB.out.gn; have := HB.out.nr; omega) (fun _ h => h) (fun _ _ h => h)⟩
         have HW4 := Kept.mk (sl_on wc_stable HW.out HOe.out (fun b hP e => by have := HB.out.gn; omega))
         have HZ4 : Kept (∀ b, bz b → b < w7.heap.size) := ⟨fun b h => Nat.lt_of_lt_of_le (HZ.out b h) HOe.out.size⟩
         clear HB HG HZ HOe HW
         refine grow nc_stable (n := 3) (p := 0) (t := 19) (fo := 7) (off := 7) (nt := 31) (lt := 29) (et := 31) (pt := 94) (rt := 31) (f := 102) (fun d _ _ _ _ h => by cases d <;> exact h) FTKids.out (by kernel_rfl) (by kernel_rfl) (by decide) (by decide) (by simp) rfl rfl HB4.out.row rfl HG4.out HB4.out.pm HZ4.out rfl (by have := HB4.out.gn; have := HB4.out.nr; omega) (by have := HKs.out; omega) (by decide) (fun W h => HC.out W us h) valNode ?_ ?_
         · intro e w8 he ho a' hd
           have hR := HRc.out
           rw [he] at hR
           refine ⟨hd, ?_⟩
           rw [hR]
           exact ⟨rfl, ⟨only_two HB4.out.only ho.out⟩⟩
         · intro x r2 hx w8 v2 bz2 u2 s2 q2 hrow hgr hpm hz1 hz2 hz3 honly hlies
           have hR := HRc.out
           rw [hx] at hR
           obtain ⟨j, rfl, hlt, hRj⟩ := hR
           have HRj := Kept.mk hRj
           have HLt2 := Kept.mk hlt
           have HB5 := Kept.mk (HB4.out.grown hrow.out hpm.out honly.out (fun o h => by have := HG4.out.lt o h; omega))
           have HG5 := hgr
           have HZ5 := Kept.mk hz3
           have HW5 := Kept.mk (sl_on wc_stable HW4.out honly.out (fun b hP e => by
             rcases e with e | e | e
             · have := HB4.out.gn; omega
             · omega
             · have := HG4.out.lt b e; omega))
           clear hrow hpm honly hlies hz1 hz2 hz3 hRj hlt hgr HRc hx HB4 HG4 HW4 HZ4
           simp only [Act.put, List.setIfInBounds_toArray, List.set_cons_zero, List.set_cons_succ]
           cases hsc : isT 1 [59, 59] r2 with
           | true =>
             have HE3 : Kept (true = decide (textT r2 = toL ⟨#[59, 59]⟩)) := ⟨hsc.symm.trans (at_op HB5.out.pm.good (by decide)).symm⟩
             have HRn : Kept (R0 = match itemsF L j (ks ++ [x]) (lines r2.tail) with | .error e => .error e | .ok (ks, r2) => .ok (.mk 9 false [] [x0] [] [] [] ks, r2)) := ⟨by rw [HRj.out, if_pos hsc]⟩
             clear hsc HRj
             go_wp2_with (first
               | (go_at_call 96; refine (accept_any _ g d r2 ⟨#[59, 59]⟩ HB5.out.pm (by decide) true HE3.out).mono ?_; rintro e w9 ⟨rfl, hp, ho⟩; have HB6 := Kept.mk (HB5.out.mv ho.out hp.out); have HOa := ho; clear hp ho)
               | (go_at_call 55; refine (skipLines_any _ g d r2.tail HB6.out.pm).mono ?_; rintro e w10 ⟨rfl, hp, ho⟩; have HB7 := Kept.mk (HB6.out.mv ho.out hp.out); have HOb : Kept (Only (· = g) w8 w10) := ⟨only_two HOa.out ho.out⟩; clear hp ho))
             have HG7 : Kept (Gr bz2 w10 (nb + 1) 31 8 NC v2 (ks ++ [x])) := ⟨HG5.out.on nc_stable (B := (· = g)) HOb.out (fun b h1 h2 => by have := HB5.out.gn; have := HB5.out.nr; omega) (fun o h1 h2 => by have := HG5.out.lt o h1; have := HB5.out.gn; have := HB5.out.nr; omega) (fun _ h => h) (fun _ _ h => h)⟩
             have HW7 := Kept.mk (sl_on wc_stable HW5.out HOb.out (fun b hP e => by have := HB5.out.gn; omega))
             have hle : (lines r2.tail).length ≤ r2.length := by have := lines_le r2.tail; have := tail_le r2; omega
             go_roundg (lines r2.tail).length
             case measure => have := HM.out; have := HLt2.out; omega
             case rel => exact ⟨lines r2.tail, ks ++ [x], v2, bz2, j, Nat.le_refl _, HB7, HW7, HG7, ⟨fun b h => Nat.lt_of_lt_of_le (HZ5.out b h) HOb.out.size⟩, ⟨by have := HKs.out; have := HLt2.out; rw [List.length_append, List.length_singleton]; omega⟩, ⟨by have := HN.out; have := HLt2.out; omega⟩, HRn⟩
           | false =>
             have HE3 : Kept (false = decide (textT r2 = toL ⟨#[59, 59]⟩)) := ⟨hsc.symm.trans (at_op HB5.out.pm.good (by decide)).symm⟩
             rw [hsc, if_neg (by decide)] at HRj
             clear hsc
             cases hes : isT 0 kEsac r2 with
             | false =>
               have HE4 := Kept.mk hes.symm
               obtain rfl : R0 = .error 100 := by rw [HRj.out, if_neg (by rw [hes]; decide)]
               clear hes HRj
               go_wp2_with (first
                 | (go_at_call 96; refine (accept_any _ g d r2 ⟨#[59, 59]⟩ HB5.out.pm (by decide) false HE3.out).mono ?_; rintro e w9 ⟨rfl, hp, ho⟩; have HB6 := Kept.mk (HB5.out.mv ho.out hp.out); clear hp ho)
                 | (go_at_call 90; refine (expWord_any _ g d r2 ⟨#[101, 115, 97, 99]⟩ HB6.out.pm (by decide) false HE4.out).mono ?_; rintro e w10 ⟨rfl, ho⟩))
               first | exact ⟨rfl, rfl, ⟨only_two HB6.out.only ho.out⟩⟩ | exact ⟨rfl, ⟨only_two HB6.out.only ho.out⟩⟩
             | true =>
               have HE4 := Kept.mk hes.symm
               have HRes : Kept (R0 = .ok (.mk 9 false [] [x0] [] [] [] (ks ++ [x]), r2.tail)) := ⟨by rw [HRj.out, if_pos hes]⟩
               clear hes HRj
               go_upto_region 11 with (first
                 | (go_at_call 96; refine (accept_any _ g d r2 ⟨#[59, 59]⟩ HB5.out.pm (by decide) false HE3.out).mono ?_; rintro e w9 ⟨rfl, hp, ho⟩; have HB6 := Kept.mk (HB5.out.mv ho.out hp.out); have HOa := ho; clear hp ho)
                 | (go_at_call 90; refine (expWord_any _ g d r2 ⟨#[101, 115, 97, 99]⟩ HB6.out.pm (by decide) true HE4.out).mono ?_; rintro e w10 ⟨u9, rfl, hu, hp, ho⟩; have hu : u9 = .tuple #[] := hu.out; subst hu; have HB9 := Kept.mk (HB6.out.mv ho.out hp.out); have HO9 : Kept (Only (· = g) w8 w10) := ⟨only_two HOa.out ho.out⟩; clear hp ho))
               have HG9 : Kept (Gr bz2 w10 (nb + 1) 31 8 NC v2 (ks ++ [x])) := ⟨HG5.out.on nc_stable (B := (· = g)) HO9.out (fun b h1 h2 => by have := HB5.out.gn; have := HB5.out.nr; omega) (fun o h1 h2 => by have := HG5.out.lt o h1; have := HB5.out.gn; have := HB5.out.nr; omega) (fun _ h => h) (fun _ _ h => h)⟩
               have HW9 := Kept.mk (sl_on wc_stable HW5.out HO9.out (fun b hP e => by have := HB5.out.gn; omega))
               clear HB5 HG5 HZ5 HB6 HOa HO9 HW5
               obtain ⟨A5, k5, rfl⟩ := HG9.out.slice
               obtain ⟨A1, k1, rfl⟩ := HW9.out.slice
               have HFw := Kept.mk (fun cs : Array Value => sl_fin wc_stable HW9.out (r := w.heap.size) cs)
               obtain ⟨old, hres, ho8⟩ := HB9.out.res
               have HOld := Kept.mk hres
               have HD := Kept.mk HB9.out.done
               have HK := Kept.mk (fun cs : Array Value => nl_done (sl_nl (HG9.out.read nc_stable (by decide))) (r := w.heap.size) (n := w.heap.size) (by have := HB9.out.nr; omega) (by have := HB9.out.nr; omega) cs)
               clear hres
               refine App.give (n := 3) (r := 2) (t := 33) (nt := 31) (rb := w.heap.size) HB9.out.row HOld.out Tryz.underlying31 rfl (by kernel_rfl) ho8 (all_node _ _ _ _ _ _ _ _ _ _ _ _ _ _ _ _ _ _) rfl rfl (by decide) (by simp) ?_
               go_wp2_with fail
               refine bodyPost_ret (results_cell_row rfl _ _ w.heap.size _ _ (0, 0) _ rfl HD.out.1 Tryz.underlying31 rfl (by kernel_rfl)) rfl ?_
               rw [HRes.out]
               exact ⟨_, rfl, ⟨nv_wk (n := []) (HFw.out _) (sl_nil _ _ _) (HK.out _), rfl⟩, ⟨HD.out.2.1⟩, ⟨HD.out.2.2⟩⟩
end Sy
end
end Go.Proofs.YtahjonfmhejoeaaGreatDoor
