/-
  Parts of the proof, merged.
-/
import Derived.Test.YtahjonfmhejoeaaGreatDoorVa31
namespace Go.Proofs.YtahjonfmhejoeaaGreatDoor
section
open Go.RowKit Tx
namespace Sy
open Lx (Tok tv tvs tvs_at Qt pan)
open Wx (Pt LV Nw parts)
def redF : Value → Option Value
 | .agg a => a[5]?
 | _ => none
def nodR (W w' : World) (u : Value) (x : Nd) : Prop := NV (Nw W.heap.size) w' u x ∧ redF u = some (.slice none 0 0)
theorem nl_one {P : Nat → Prop} {w : World} {cs : Array Value} {x : Nd} (h : NV P w (.agg cs) x) (hP : P w.heap.size) : NL P (w.alloc (.cells cs 31)) (.slice (some ⟨w.heap.size, 0, none⟩) 1 1) [x] := by
 have h2 := h.below_alloc (.cells cs 31)
 obtain ⟨u, hu⟩ : ∃ u, u = Value.agg cs := ⟨_, rfl⟩
 rw [← hu] at h2
 cases h2 with
 | mk k q n ws gs rs os ks vw va vr vo vk hp h1 hk =>
   have hcs : cs = (nvs k q n vw va vr vo vk).toArray := by injection hu with h; exact h.symm
   refine .at w.heap.size 0 1 1 (nvs k q n vw va vr vo vk) _ rfl (Nat.le_refl _) hP (by simp) (fun j u hu => ?_) (by have := NC.cons k q n ws gs rs os ks vw va vr vo vk [] [] hp h1 hk NC.nil; rwa [List.append_nil] at this)
   rw [Nat.zero_add, cell_of_row _ _ j _ _ (0, 0) (heap_alloc_new w _), hcs]
   simpa using hu
theorem nl_only {m : Nat} {w w' : World} {g : Nat} {v : Value} {l : List Nd} (h : NL (fun b => m ≤ b) w v l) (ho : Only (· = g) w w') (hg : g < m) : NL (fun b => m ≤ b) w' v l := h.same (fun b hP hl => ⟨hP, ho.block b hl (by have : m ≤ b := hP; omega)⟩) ho.size
theorem nl_alloc {P : Nat → Prop} {w : World} {v : Value} {l : List Nd} (h : NL P w v l) (o : Obj) : NL P (w.alloc o) v l := h.keep ((Below.refl _ _).alloc (Nat.le_refl _) _)
theorem nv_up {m n : Nat} {w : World} {u : Value} {x : Nd} (h : NV (Nw m) w u x) (hn : n ≤ m) : NV (fun b => n ≤ b) w u x := h.mono fun _b hP _ => Nat.le_trans hn hP
theorem expOp_any (w : World) (g d : Nat) (ts : List Tok) (x : ByteArray) (h : PM w g d ts) (hx : Lx.opers.contains (toL x) = true) (t : Bool) (ht : t = isT 1 (toL x) ts) :
   Calls Tryz.prog 90 #[.pointer (some ⟨g, 0, none⟩), .string x] w (RE w g d unitV (exp t ts)) :=
 expect_any w g d ts x h (fun e => by have h2 := toL_length x; rw [e] at h2; rw [List.eq_nil_of_length_eq_zero h2] at hx; revert hx; decide) t (ht.trans (at_op h.good hx).symm)
theorem expWord_any (w : World) (g d : Nat) (ts : List Tok) (x : ByteArray) (h : PM w g d ts) (hx : wordy (toL x) = true) (t : Bool) (ht : t = isT 0 (toL x) ts) :
   Calls Tryz.prog 90 #[.pointer (some ⟨g, 0, none⟩), .string x] w (RE w g d unitV (exp t ts)) :=
 expect_any w g d ts x h (fun e => by have h2 := toL_length x; rw [e] at h2; rw [List.eq_nil_of_length_eq_zero h2] at hx; revert hx; decide) t (ht.trans (at_word h.good hx).symm)
theorem bs_hold2 {w0 w2 : World} {g d : Nat} {us : List Tok} (hres : ∃ old, w2.heap[w0.heap.size]? = some (.cells old 31 (0, 0)) ∧ old.size = 8) (hp : PM w2 g d us) (ho : Only (· = g) w0 w2) (hg : g < w0.heap.size) (o : Obj) (cs : Array Value) : BS w0 ((w2.alloc o).alloc (.cells cs 31)) g d (w2.heap.size + 1) cs us := by
 obtain ⟨old, hr, h8⟩ := hres
 have hlt := (Array.getElem?_eq_some_iff.1 hr).1
 have := BS.hold (w0 := w0) (w2 := w2.alloc o) (g := g) (d := d) (us := us) ⟨old, (Below.heap_alloc w2 _ _ hlt).trans hr, h8⟩ (hp.below ((Below.refl _ _).alloc (Nat.le_refl _) _)) (ho.below ((Below.refl _ _).alloc (Nat.le_refl _) _)) hg cs
 simpa using this
def InC (g d : Nat) (c : List Tok → R Nd) : Prop := ∀ W us, PM W g d us → Calls Tryz.prog 91 #[.pointer (some ⟨g, 0, none⟩)] W (RE W g d (nodV W) (list c false us))
theorem inner_c (g d : Nat) (hd : d ≤ 39) (c : List Tok → R Nd) (HC : Kept (RdC 25 g (d + 1) (list c true))) : InC g d c := fun W us h => inner_any W g d us h hd c HC
set_option maxHeartbeats 4000000 in
set_option maxRecDepth 100000 in
theorem sub_any (w : World) (g d : Nat) (ts : List Tok) (h : PM w g d ts) (ht : isT 1 [40] ts = true) (c : List Tok → R Nd) (HC : Kept (InC g d c)) (R0 : R Nd) (hR0 : R0 = andThen (upTo 1 [41] (list c false ts.tail)) fun l r => .ok (.mk 5 false [] [] [] [] [] [l], r)) :
   Calls Tryz.prog 49 #[.pointer (some ⟨g, 0, none⟩)] w (RE w g d (nodR w) R0) := by
 have H := Kept.mk h
 have HGl := Kept.mk h.lt
 have HT := Kept.mk ht.symm
 have HR := Kept.mk hR0
 clear h ht hR0
 go_enter Tryz.func49, Tryz.ntmps49
 go_wp2_with (first
   | (go_at_call 90; refine (expOp_any _ g d ts ⟨#[40]⟩ (H.out.below ((Below.refl _ _).alloc (Nat.le_refl _) _)) (by decide) true HT.out).mono ?_; rintro e w1 ⟨u, rfl, hu, hp, ho⟩; have hu : u = .tuple #[] := hu.out; subst hu; have HP1 := hp; have HO1 := ho; clear hp ho))
 go_at_call 91
 refine (HC.out w1 ts.tail HP1.out).mono ?_
 intro e w2 hE
 have HA : Kept (Only (· = g) w w1) := ⟨only_alloc HO1.out⟩
 cases hcu : list c false ts.tail with
 | error e2 =>
   rw [hcu] at hE
   obtain ⟨rfl, ho⟩ := hE
   obtain rfl : R0 = .error e2 := by rw [HR.out, hcu]; rfl
   first | exact ⟨rfl, rfl, ⟨only_two HA.out ho.out⟩⟩ | exact ⟨rfl, ⟨only_two HA.out ho.out⟩⟩
 | ok z =>
   obtain ⟨x, us⟩ := z
   rw [hcu] at hE
   obtain ⟨u, rfl, hu, hp, ho⟩ := hE
   obtain ⟨k, q, n, A1, n1, k1, A2, n2, k2, A3, n3, k3, A4, n4, k4, A5, n5, k5, ws, gs, rs, os, ks, rfl, hxe, _, hkd⟩ := nv_parts hu.out
   have HRe : Kept (R0 = if isT 1 [41] us = true then .ok (.mk 5 false [] [] [] [] [] [x], us.tail) else .error 100) := ⟨by
     rw [HR.out, hcu]
     show andThen (if isT 1 [41] us = true then _ else _) _ = _
     split <;> rfl⟩
   have hs1 : w.heap.size + 1 ≤ w1.heap.size := by have := HO1.out.size; simpa using this
   have hs2 := ho.out.size
   have HB := Kept.mk (bs_hold2 (res_on (only_two HO1.out ho.out) HGl.out rfl) hp.out (only_two HA.out ho.out) HGl.out (.cells #[.int .i64 k, .bool q, .string (bs n), .slice A1 n1 k1, .slice A2 n2 k2, .slice A3 n3 k3, .slice A4 n4 k4, .slice A5 n5 k5] 31) #[.int .i64 5, .bool false, .string ⟨#[]⟩, .slice none 0 0, .slice none 0 0, .slice none 0 0, .slice none 0 0, .slice (some ⟨w2.heap.size, 0, none⟩) 1 1])
   have HN : Kept (NL (fun b => w.heap.size + 1 ≤ b) ((w2.alloc (.cells #[.int .i64 k, .bool q, .string (bs n), .slice A1 n1 k1, .slice A2 n2 k2, .slice A3 n3 k3, .slice A4 n4 k4, .slice A5 n5 k5] 31)).alloc (.cells #[.int .i64 5, .bool false, .string ⟨#[]⟩, .slice none 0 0, .slice none 0 0, .slice none 0 0, .slice none 0 0, .slice (some ⟨w2.heap.size, 0, none⟩) 1 1] 31)) (.slice (some ⟨w2.heap.size, 0, none⟩) 1 1) [x]) := ⟨nl_alloc (nl_one (nv_up hu.out hs1) (by show _ ≤ _; omega)) _⟩
   have HNb : Kept (w.heap.size < w2.heap.size + 1) := ⟨by omega⟩
   clear hcu hu hp ho HR hkd hxe hs2 hs1
   cases htc : isT 1 [41] us with
   | false =>
     obtain rfl : R0 = .error 100 := by rw [HRe.out, if_neg (by rw [htc]; decide)]
     have HTc := Kept.mk htc.symm
     clear htc HRe
     go_wp2_with (first
       | (go_at_call 90; refine (expOp_any _ g d us ⟨#[41]⟩ HB.out.pm (by decide) false HTc.out).mono ?_; rintro e w3 ⟨rfl, ho⟩))
     first | exact ⟨rfl, rfl, ⟨only_two HB.out.only ho.out⟩⟩ | exact ⟨rfl, ⟨only_two HB.out.only ho.out⟩⟩
   | true =>
     have HRes : Kept (R0 = .ok (.mk 5 false [] [] [] [] [] [x], us.tail)) := ⟨by rw [HRe.out, if_pos htc]⟩
     have HTc := Kept.mk htc.symm
     clear htc HRe
     go_upto_region 4 with (first
       | (go_at_call 90; refine (expOp_any _ g d us ⟨#[41]⟩ HB.out.pm (by decide) true HTc.out).mono ?_; rintro e w4 ⟨u, rfl, hu, hp, ho⟩; have hu : u = .tuple #[] := hu.out; subst hu; have HP4 := hp; have HO4 := ho; clear hp ho))
     have HB4 := Kept.mk (HB.out.mv HO4.out HP4.out)
     have HN4 := Kept.mk (nl_only HN.out HO4.out (by have := HGl.out; omega))
     clear HB HN HO4 HP4
     obtain ⟨old, hres, ho8⟩ := HB4.out.res
     have HOld := Kept.mk hres
     have HDn := Kept.mk HB4.out.done
     clear hres
     refine App.give (n := 3) (r := 2) (t := 12) (nt := 31) (rb := w.heap.size) HB4.out.row HOld.out Tryz.underlying31 rfl (by kernel_rfl) ho8 (all_node _ _ _ _ _ _ _ _ _ _ _ _ _ _ _ _ _ _) rfl rfl (by decide) (by simp) ?_
     go_wp2_with fail
     refine bodyPost_ret (results_cell_row rfl _ _ w.heap.size _ _ (0, 0) _ rfl HDn.out.1 Tryz.underlying31 rfl (by kernel_rfl)) rfl ?_
     rw [HRes.out]
     exact ⟨_, rfl, ⟨nv_kids (n := []) (nl_done HN4.out (by omega) (by omega) _), rfl⟩, ⟨HDn.out.2.1⟩, ⟨HDn.out.2.2⟩⟩
set_option maxHeartbeats 4000000 in
set_option maxRecDepth 100000 in
theorem group_any (w : World) (g d : Nat) (ts : List Tok) (h : PM w g d ts) (ht : isT 0 [123] ts = true) (c : List Tok → R Nd) (HC : Kept (InC g d c)) (R0 : R Nd) (hR0 : R0 = andThen (upTo 0 [125] (list c false ts.tail)) fun l r => .ok (.mk 4 false [] [] [] [] [] [l], r)) :
   Calls Tryz.prog 50 #[.pointer (some ⟨g, 0, none⟩)] w (RE w g d (nodR w) R0) := by
 have H := Kept.mk h
 have HGl := Kept.mk h.lt
 have HT := Kept.mk ht.symm
 have HR := Kept.mk hR0
 clear h ht hR0
 go_enter Tryz.func50, Tryz.ntmps50
 go_wp2_with (first
   | (go_at_call 90; refine (expWord_any _ g d ts ⟨#[123]⟩ (H.out.below ((Below.refl _ _).alloc (Nat.le_refl _) _)) (by decide) true HT.out).mono ?_; rintro e w1 ⟨u, rfl, hu, hp, ho⟩; have hu : u = .tuple #[] := hu.out; subst hu; have HP1 := hp; have HO1 := ho; clear hp ho))
 go_at_call 91
 refine (HC.out w1 ts.tail HP1.out).mono ?_
 intro e w2 hE
 have HA : Kept (Only (· = g) w w1) := ⟨only_alloc HO1.out⟩
 cases hcu : list c false ts.tail with
 | error e2 =>
   rw [hcu] at hE
   obtain ⟨rfl, ho⟩ := hE
   obtain rfl : R0 = .error e2 := by rw [HR.out, hcu]; rfl
   first | exact ⟨rfl, rfl, ⟨only_two HA.out ho.out⟩⟩ | exact ⟨rfl, ⟨only_two HA.out ho.out⟩⟩
 | ok z =>
   obtain ⟨x, us⟩ := z
   rw [hcu] at hE
   obtain ⟨u, rfl, hu, hp, ho⟩ := hE
   obtain ⟨k, q, n, A1, n1, k1, A2, n2, k2, A3, n3, k3, A4, n4, k4, A5, n5, k5, ws, gs, rs, os, ks, rfl, hxe, _, hkd⟩ := nv_parts hu.out
   have HRe : Kept (R0 = if isT 0 [125] us = true then .ok (.mk 4 false [] [] [] [] [] [x], us.tail) else .error 100) := ⟨by
     rw [HR.out, hcu]
     show andThen (if isT 0 [125] us = true then _ else _) _ = _
     split <;> rfl⟩
   have hs1 : w.heap.size + 1 ≤ w1.heap.size := by have := HO1.out.size; simpa using this
   have hs2 := ho.out.size
   have HB := Kept.mk (bs_hold2 (res_on (only_two HO1.out ho.out) HGl.out rfl) hp.out (only_two HA.out ho.out) HGl.out (.cells #[.int .i64 k, .bool q, .string (bs n), .slice A1 n1 k1, .slice A2 n2 k2, .slice A3 n3 k3, .slice A4 n4 k4, .slice A5 n5 k5] 31) #[.int .i64 4, .bool false, .string ⟨#[]⟩, .slice none 0 0, .slice none 0 0, .slice none 0 0, .slice none 0 0, .slice (some ⟨w2.heap.size, 0, none⟩) 1 1])
   have HN : Kept (NL (fun b => w.heap.size + 1 ≤ b) ((w2.alloc (.cells #[.int .i64 k, .bool q, .string (bs n), .slice A1 n1 k1, .slice A2 n2 k2, .slice A3 n3 k3, .slice A4 n4 k4, .slice A5 n5 k5] 31)).alloc (.cells #[.int .i64 4, .bool false, .string ⟨#[]⟩, .slice none 0 0, .slice none 0 0, .slice none 0 0, .slice none 0 0, .slice (some ⟨w2.heap.size, 0, none⟩) 1 1] 31)) (.slice (some ⟨w2.heap.size, 0, none⟩) 1 1) [x]) := ⟨nl_alloc (nl_one (nv_up hu.out hs1) (by show _ ≤ _; omega)) _⟩
   have HNb : Kept (w.heap.size < w2.heap.size + 1) := ⟨by omega⟩
   clear hcu hu hp ho HR hkd hxe hs2 hs1
   cases htc : isT 0 [125] us with
   | false =>
     obtain rfl : R0 = .error 100 := by rw [HRe.out, if_neg (by rw [htc]; decide)]
     have HTc := Kept.mk htc.symm
     clear htc HRe
     go_wp2_with (first
       | (go_at_call 90; refine (expWord_any _ g d us ⟨#[125]⟩ HB.out.pm (by decide) false HTc.out).mono ?_; rintro e w3 ⟨rfl, ho⟩))
     first | exact ⟨rfl, rfl, ⟨only_two HB.out.only ho.out⟩⟩ | exact ⟨rfl, ⟨only_two HB.out.only ho.out⟩⟩
   | true =>
     have HRes : Kept (R0 = .ok (.mk 4 false [] [] [] [] [] [x], us.tail)) := ⟨by rw [HRe.out, if_pos htc]⟩
     have HTc := Kept.mk htc.symm
     clear htc HRe
     go_upto_region 4 with (first
       | (go_at_call 90; refine (expWord_any _ g d us ⟨#[125]⟩ HB.out.pm (by decide) true HTc.out).mono ?_; rintro e w4 ⟨u, rfl, hu, hp, ho⟩; have hu : u = .tuple #[] := hu.out; subst hu; have HP4 := hp; have HO4 := ho; clear hp ho))
     have HB4 := Kept.mk (HB.out.mv HO4.out HP4.out)
     have HN4 := Kept.mk (nl_only HN.out HO4.out (by have := HGl.out; omega))
     clear HB HN HO4 HP4
     obtain ⟨old, hres, ho8⟩ := HB4.out.res
     have HOld := Kept.mk hres
     have HDn := Kept.mk HB4.out.done
     clear hres
     refine App.give (n := 3) (r := 2) (t := 12) (nt := 31) (rb := w.heap.size) HB4.out.row HOld.out Tryz.underlying31 rfl (by kernel_rfl) ho8 (all_node _ _ _ _ _ _ _ _ _ _ _ _ _ _ _ _ _ _) rfl rfl (by decide) (by simp) ?_
     go_wp2_with fail
     refine bodyPost_ret (results_cell_row rfl _ _ w.heap.size _ _ (0, 0) _ rfl HDn.out.1 Tryz.underlying31 rfl (by kernel_rfl)) rfl ?_
     rw [HRes.out]
     exact ⟨_, rfl, ⟨nv_kids (n := []) (nl_done HN4.out (by omega) (by omega) _), rfl⟩, ⟨HDn.out.2.1⟩, ⟨HDn.out.2.2⟩⟩
end Sy
end
section
open Go.RowKit Tx
namespace Sy
open Lx (Tok tv tvs tvs_at Qt pan)
open Wx (Pt LV Nw parts)
set_option maxHeartbeats 4000000 in
set_option maxRecDepth 100000 in
theorem body_any (w : World) (g d : Nat) (ts : List Tok) (h : PM w g d ts) (c : List Tok → R Nd) (HC : Kept (InC g d c)) (R0 : R Nd) (hR0 : R0 = body (list c) ts) :
   Calls Tryz.prog 98 #[.pointer (some ⟨g, 0, none⟩)] w (RE w g d (nodV w) R0) := by
 have H := Kept.mk h
 have HGl := Kept.mk h.lt
 unfold body at hR0
 cases ht : isT 0 kDo ts with
 | false =>
   obtain rfl : R0 = .error 100 := by rw [hR0, if_neg (by rw [ht]; decide)]
   have HT := Kept.mk ht.symm
   clear h ht hR0
   go_enter Tryz.func98, Tryz.ntmps98
   go_wp2_with (first
     | (go_at_call 90; refine (expWord_any _ g d ts ⟨#[100, 111]⟩ (H.out.below ((Below.refl _ _).alloc (Nat.le_refl _) _)) (by decide) false HT.out).mono ?_; rintro e w1 ⟨rfl, ho⟩))
   first | exact ⟨rfl, rfl, ⟨only_alloc ho.out⟩⟩ | exact ⟨rfl, ⟨only_alloc ho.out⟩⟩
 | true =>
   rw [if_pos ht] at hR0
   have HR := Kept.mk hR0
   have HT := Kept.mk ht.symm
   clear h ht hR0
   go_enter Tryz.func98, Tryz.ntmps98
   go_wp2_with (first
     | (go_at_call 90; refine (expWord_any _ g d ts ⟨#[100, 111]⟩ (H.out.below ((Below.refl _ _).alloc (Nat.le_refl _) _)) (by decide) true HT.out).mono ?_; rintro e w1 ⟨u, rfl, hu, hp, ho⟩; have hu : u = .tuple #[] := hu.out; subst hu; have HP1 := hp; have HO1 := ho; clear hp ho))
   go_at_call 91
   refine (HC.out w1 ts.tail HP1.out).mono ?_
   intro e w2 hE
   have HA : Kept (Only (· = g) w w1) := ⟨only_alloc HO1.out⟩
   cases hcu : list c false ts.tail with
   | error e2 =>
     rw [hcu] at hE
     obtain ⟨rfl, ho⟩ := hE
     obtain rfl : R0 = .error e2 := by rw [HR.out, hcu]; rfl
     first | exact ⟨rfl, rfl, ⟨only_two HA.out ho.out⟩⟩ | exact ⟨rfl, ⟨only_two HA.out ho.out⟩⟩
   | ok z =>
     obtain ⟨x, us⟩ := z
     rw [hcu] at hE
     obtain ⟨u, rfl, hu, hp, ho⟩ := hE
     obtain ⟨k, q, n, A1, n1, k1, A2, n2, k2, A3, n3, k3, A4, n4, k4, A5, n5, k5, ws, gs, rs, os, ks, rfl, hxe, _, hkd⟩ := nv_parts hu.out
     have HRe : Kept (R0 = if isT 0 kDone us = true then .ok (x, us.tail) else .error 100) := ⟨by rw [HR.out, hcu]; rfl⟩
     have hs1 : w.heap.size + 1 ≤ w1.heap.size := by have := HO1.out.size; simpa using this
     have hs2 := ho.out.size
     have HB := Kept.mk (BS.hold (res_on (only_two HO1.out ho.out) HGl.out rfl) hp.out (only_two HA.out ho.out) HGl.out #[.int .i64 k, .bool q, .string (bs n), .slice A1 n1 k1, .slice A2 n2 k2, .slice A3 n3 k3, .slice A4 n4 k4, .slice A5 n5 k5])
     have HN : Kept (NV (Nw (w.heap.size + 1)) (w2.alloc (.cells #[.int .i64 k, .bool q, .string (bs n), .slice A1 n1 k1, .slice A2 n2 k2, .slice A3 n3 k3, .slice A4 n4 k4, .slice A5 n5 k5] 31)) (.agg #[.int .i64 k, .bool q, .string (bs n), .slice A1 n1 k1, .slice A2 n2 k2, .slice A3 n3 k3, .slice A4 n4 k4, .slice A5 n5 k5]) x) := ⟨(hu.out.below_alloc _).mono fun b hP _ => Nat.le_trans hs1 hP⟩
     clear hcu hu hp ho HR hkd hxe hs2 hs1
     cases htc : isT 0 kDone us with
     | false =>
       obtain rfl : R0 = .error 100 := by rw [HRe.out, if_neg (by rw [htc]; decide)]
       have HTc := Kept.mk htc.symm
       clear htc HRe
       go_wp2_with (first
         | (go_at_call 90; refine (expWord_any _ g d us ⟨#[100, 111, 110, 101]⟩ HB.out.pm (by decide) false HTc.out).mono ?_; rintro e w3 ⟨rfl, ho⟩))
       first | exact ⟨rfl, rfl, ⟨only_two HB.out.only ho.out⟩⟩ | exact ⟨rfl, ⟨only_two HB.out.only ho.out⟩⟩
     | true =>
       have HRes : Kept (R0 = .ok (x, us.tail)) := ⟨by rw [HRe.out, if_pos htc]⟩
       have HTc := Kept.mk htc.symm
       clear htc HRe
       go_upto_region 4 with (first
         | (go_at_call 90; refine (expWord_any _ g d us ⟨#[100, 111, 110, 101]⟩ HB.out.pm (by decide) true HTc.out).mono ?_; rintro e w4 ⟨u, rfl, hu, hp, ho⟩; have hu : u = .tuple #[] := hu.out; subst hu; have HP4 := hp; have HO4 := ho; clear hp ho))
       have HB4 := Kept.mk (HB.out.mv HO4.out HP4.out)
       have HN4 : Kept (NV (Nw (w.heap.size + 1)) w4 (.agg #[.int .i64 k, .bool q, .string (bs n), .slice A1 n1 k1, .slice A2 n2 k2, .slice A3 n3 k3, .slice A4 n4 k4, .slice A5 n5 k5]) x) := ⟨HN.out.same (fun b hP hl => ⟨hP, HO4.out.block b hl (by have : w.heap.size + 1 ≤ b := hP; have := HGl.out; omega)⟩) HO4.out.size⟩
       clear HB HN HO4 HP4
       obtain ⟨old, hres, ho8⟩ := HB4.out.res
       have HOld := Kept.mk hres
       have HDn := Kept.mk HB4.out.done
       clear hres
       refine App.give (n := 3) (r := 2) (t := 10) (nt := 31) (rb := w.heap.size) HB4.out.row HOld.out Tryz.underlying31 rfl (by kernel_rfl) ho8 (all_node _ _ _ _ _ _ _ _ _ _ _ _ _ _ _ _ _ _) rfl rfl (by decide) (by simp) ?_
       go_wp2_with fail
       refine bodyPost_ret (results_cell_row rfl _ _ w.heap.size _ _ (0, 0) _ rfl HDn.out.1 Tryz.underlying31 rfl (by kernel_rfl)) rfl ?_
       rw [HRes.out]
       exact ⟨_, rfl, ⟨nv_done HN4.out (by omega) (by omega) _⟩, ⟨HDn.out.2.1⟩, ⟨HDn.out.2.2⟩⟩
def BoC (g d : Nat) (c : List Tok → R Nd) : Prop := ∀ W us, PM W g d us → Calls Tryz.prog 98 #[.pointer (some ⟨g, 0, none⟩)] W (RE W g d (nodV W) (body (list c) us))
theorem body_c (g d : Nat) (c : List Tok → R Nd) (HC : Kept (InC g d c)) : BoC g d c := fun W us h => body_any W g d us h c HC _ rfl
set_option maxHeartbeats 4000000 in
set_option maxRecDepth 100000 in
theorem while_any (w : World) (g d : Nat) (t : Tok) (ts : List Tok) (h : PM w g d (t :: ts)) (c : List Tok → R Nd) (HC : Kept (InC g d c)) (R0 : R Nd) (hR0 : R0 = loop (list c) (t :: ts)) :
   Calls Tryz.prog 52 #[.pointer (some ⟨g, 0, none⟩)] w (RE w g d (nodR w) R0) := by
 have H := Kept.mk h
 have HGl := Kept.mk h.lt
 have HR : Kept (R0 = andThen (list c false ts) fun c1 r => andThen (body (list c) r) fun b r2 => .ok (.mk 7 false t.text [] [] [] [] [c1, b], r2)) := ⟨hR0⟩
 clear h hR0
 go_enter Tryz.func52, Tryz.ntmps52
 go_upto_region 2 with (first
   | (go_at_call 97; refine (take_any _ g d t ts (H.out.below ((Below.refl _ _).alloc (Nat.le_refl _) _))).mono ?_; rintro e w1 ⟨rfl, hp, ho⟩; have HP1 := hp; have HO1 := ho; clear hp ho))
 have HB := Kept.mk (BS.hold (res_on HO1.out HGl.out rfl) HP1.out (only_alloc HO1.out) HGl.out #[.int .i64 7, .bool false, .string (bs t.text), .slice none 0 0, .slice none 0 0, .slice none 0 0, .slice none 0 0, .slice none 0 0])
 have HN1 : Kept (w.heap.size + 1 ≤ w1.heap.size) := ⟨by have := HO1.out.size; simpa using this⟩
 generalize hW : w1.alloc (.cells #[.int .i64 7, .bool false, .string (bs t.text), .slice none 0 0, .slice none 0 0, .slice none 0 0, .slice none 0 0, .slice none 0 0] 31) = w2 at *
 clear hW
 generalize hnb : w1.heap.size = nb at *
 clear hnb HP1 HO1
 obtain ⟨tiKids, zKids, hftKids⟩ := fitsKids (nb) g 91 (fun W => by kernel_rfl)
 have FTKids := Kept.mk hftKids
 clear hftKids
 have HG : Kept (Gr (fun _ => False) w2 (nb + 1) 31 8 NC (.slice none 0 0) []) := ⟨Gr.nil nc_stable _ _ _ _ _⟩
 have HZ : Kept (∀ b, (fun _ => False) b → b < w2.heap.size) := ⟨fun _ h => h.elim⟩
 refine grow nc_stable (n := 3) (p := 0) (t := 7) (fo := 7) (off := 7) (nt := 31) (lt := 29) (et := 31) (pt := 94) (rt := 31) (f := 91) (fun d _ _ _ _ h => by cases d <;> exact h) FTKids.out (by kernel_rfl) (by kernel_rfl) (by decide) (by decide) (by simp) rfl rfl HB.out.row rfl HG.out HB.out.pm HZ.out rfl (by have := HB.out.gn; have := HB.out.nr; omega) (by simp) (by decide) (fun W h => HC.out W ts h) valNode ?_ ?_
 · intro c1 w3 he ho a' hd
   have hR := HR.out
   rw [he] at hR
   refine ⟨hd, ?_⟩
   rw [hR]
   exact ⟨rfl, ⟨only_two HB.out.only ho.out⟩⟩
 · intro x r hx w3 v' bz' u s q hrow hgr hpm hz1 hz2 hz3 honly hlies
   have HR2 : Kept (R0 = andThen (body (list c) r) fun b r2 => .ok (.mk 7 false t.text [] [] [] [] [x, b], r2)) := ⟨by rw [HR.out, hx]; rfl⟩
   have HB3 := Kept.mk (HB.out.grown hrow.out hpm.out honly.out (fun o h => by cases h))
   have HG3 := hgr
   have HZ3 := Kept.mk hz3
   clear hrow hpm honly hlies hz1 hz2 hz3 hgr HR hx HB HG HZ FTKids
   simp only [Act.put, List.setIfInBounds_toArray, List.set_cons_zero, List.set_cons_succ]
   obtain ⟨tiKids, zKids, hftKids⟩ := fitsKids (nb) g 98 (fun W => by kernel_rfl)
   have FTKids := Kept.mk hftKids
   clear hftKids
   have HBo := Kept.mk (body_c g d c HC)
   go_upto_region 3 with fail
   refine grow nc_stable (n := 3) (p := 0) (t := 14) (fo := 7) (off := 7) (nt := 31) (lt := 29) (et := 31) (pt := 94) (rt := 31) (f := 98) (fun d _ _ _ _ h => by cases d <;> exact h) FTKids.out (by kernel_rfl) (by kernel_rfl) (by decide) (by decide) (by simp) rfl rfl HB3.out.row rfl HG3.out HB3.out.pm HZ3.out rfl (by have := HB3.out.gn; have := HB3.out.nr; omega) (by simp) (by decide) (fun W h => HBo.out W r h) valNode ?_ ?_
   · intro c1 w4 he ho a' hd
     have hR := HR2.out
     rw [he] at hR
     refine ⟨hd, ?_⟩
     rw [hR]
     exact ⟨rfl, ⟨only_two HB3.out.only ho.out⟩⟩
   · intro y r2 hy w4 v2 bz2 u2 s2 q2 hrow hgr hpm hz1 hz2 hz3 honly hlies
     have HRes : Kept (R0 = .ok (.mk 7 false t.text [] [] [] [] [x, y], r2)) := ⟨by rw [HR2.out, hy]; rfl⟩
     have HB4 := Kept.mk (HB3.out.grown hrow.out hpm.out honly.out (fun o h => by have := HG3.out.lt o h; omega))
     have HG4 := hgr
     clear hrow hpm honly hlies hz1 hz2 hz3 hgr HR2 hy HB3 HG3 HZ3 FTKids
     simp only [Act.put, List.setIfInBounds_toArray, List.set_cons_zero, List.set_cons_succ]
     go_upto_region 4 with fail
     obtain ⟨A5, k5, rfl⟩ := HG4.out.slice
     obtain ⟨old, hres, ho8⟩ := HB4.out.res
     have HOld := Kept.mk hres
     have HD := Kept.mk HB4.out.done
     have HK := Kept.mk (fun cs : Array Value => nl_done (sl_nl (HG4.out.read nc_stable (by decide))) (r := w.heap.size) (n := w.heap.size) (by have := HN1.out; omega) (by have := HN1.out; omega) cs)
     clear hres
     refine App.give (n := 3) (r := 2) (t := 21) (nt := 31) (rb := w.heap.size) HB4.out.row HOld.out Tryz.underlying31 rfl (by kernel_rfl) ho8 (all_node _ _ _ _ _ _ _ _ _ _ _ _ _ _ _ _ _ _) rfl rfl (by decide) (by simp) ?_
     go_wp2_with fail
     refine bodyPost_ret (results_cell_row rfl _ _ w.heap.size _ _ (0, 0) _ rfl HD.out.1 Tryz.underlying31 rfl (by kernel_rfl)) rfl ?_
     rw [HRes.out]
     exact ⟨_, rfl, ⟨nv_kids (HK.out _), rfl⟩, ⟨HD.out.2.1⟩, ⟨HD.out.2.2⟩⟩
end Sy
end
section
open Go.RowKit Tx
namespace Sy
open Lx (Tok tv tvs tvs_at Qt pan)
open Wx (Pt LV Nw parts)
theorem gr_first {bz : Nat → Prop} {w : World} {n0 : Nat} {v : Value} {x : Nd} (h : Gr bz w n0 31 8 NC v [x]) : ∃ kg cap cells, v = .slice (some ⟨kg, 0, none⟩) 1 cap ∧ w.rangeAt kg 0 cells ∧ cells.length = 8 ∧ cells.toArray.all (·.oneCell') = true ∧ NV (fun b => n0 ≤ b) w (.agg cells.toArray) x := by
 obtain ⟨⟨xs, hx, hc⟩, _⟩ := h
 rcases hx.2 with ⟨_, h0⟩ | ⟨kg, cap, cur, rfl, hB, hg, hnc, hcm, hcs, htake⟩
 · simp at h0
 · refine ⟨kg, cap, xs, rfl, fun j u hu => ?_, by rw [hx.1]; rfl, ?_, ?_⟩
   · rw [Nat.zero_add, cell_of_row w kg j cur _ (0, 0) hg]
     rw [← htake, List.getElem?_take] at hu
     split at hu
     · simpa using hu
     · cases hu
   · cases hc with
     | cons k q n ws gs rs os ks vw va vr vo vk xs l hp h1 hk hr =>
       cases hr
       have := hp.w1; have := hp.a1; have := hp.r1; have := hp.o1
       simp_all [nvs, Value.oneCell']
   · cases hc with
     | cons k q n ws gs rs os ks vw va vr vo vk xs l hp h1 hk hr =>
       cases hr
       rw [List.append_nil]
       exact (NV.mk k q n ws gs rs os ks vw va vr vo vk hp h1 hk).mono fun b h _ => h.1
theorem nv_fin {w : World} {r m n : Nat} {u : Value} {x : Nd} (h : NV (fun b => m ≤ b) w u x) (hr : r < m) (hn : n ≤ m) (cs : Array Value) : NV (Nw n) (w.setRow r cs) u x := nv_done (m := m) (h.mono fun _ h _ => h) hr hn cs
theorem BS.pass {w0 w : World} {g d nb : Nat} {cs : Array Value} {us : List Tok} (h : BS w0 w g d nb cs us) (cells : Array Value) :
   (w.setRow w0.heap.size cells).heap[w0.heap.size]? = some (.cells cells 31 (0, 0)) ∧ PM (w.setRow w0.heap.size cells) g d us ∧ Only (· = g) w0 (w.setRow w0.heap.size cells) := by
 obtain ⟨old, hr, _⟩ := h.res
 have hgn := h.gn
 refine ⟨setRow_heap _ _ _ cells _ _ hr, h.pm.low (fun i hi _ => setRow_other _ _ i _ (by omega)) (by rw [setRow_size]; exact Nat.le_refl _), ⟨h.only.os, h.only.tape, h.only.output, by rw [setRow_size]; exact h.only.size, fun i hi hn => (setRow_other _ _ i _ (by omega)).trans (h.only.block i hi hn)⟩⟩
theorem ixNode (kg cap n : Nat) (hn : 0 < n) (W : World) : (Instr.indexAt 29 (.slice (some ⟨kg, 0, none⟩) n cap) (.int .i64 0)).run Tryz.prog W = .ok (.pointer (some ⟨kg, 0, none⟩)) W := by
 have h : (0 : Int) < (n : Int) := by omega
 have h2 : n ≠ 0 := by omega
 simp [go_sem, hn, Addr.add]
set_option maxHeartbeats 8000000 in
set_option maxRecDepth 100000 in
theorem pipe_any (w : World) (g d : Nat) (ts : List Tok) (h : PM w g d ts) (c : List Tok → R Nd) (hc : Lt c) (HC : Kept (RdC 129 g d c)) (R0 : R Nd) (hR0 : R0 = pipe c ts) :
   Calls Tryz.prog 104 #[.pointer (some ⟨g, 0, none⟩)] w (RE w g d (nodV w) R0) := by
 have H := Kept.mk h
 have HGl := Kept.mk h.lt
 have HLt := Kept.mk hc
 obtain ⟨q, hq⟩ : ∃ q, q = isT 0 [33] ts := ⟨_, rfl⟩
 have HQ := Kept.mk hq
 have HQ2 : Kept (q = decide (textT ts = toL ⟨#[33]⟩)) := ⟨hq.trans (at_word h.good (by decide)).symm⟩
 obtain ⟨us0, hus0⟩ : ∃ us0, us0 = if q then ts.tail else ts := ⟨_, rfl⟩
 have HR : Kept (R0 = match c us0 with | .error e => .error e | .ok (k0, r) => match pipeF c (r.length + 1) [k0] r with | .error e => .error e | .ok (ks, r2) => if ks.length = 1 ∧ isT 0 [33] ts = false then .ok (k0, r2) else .ok (.mk 1 (isT 0 [33] ts) [] [] [] [] [] ks, r2)) := ⟨by rw [hR0, hus0, hq]; rfl⟩
 clear h hc hR0 hq
 go_enter Tryz.func104, Tryz.ntmps104
 go_upto_region 2 with (first
   | (go_at_call 96; refine (accept_any _ g d ts ⟨#[33]⟩ (H.out.below ((Below.refl _ _).alloc (Nat.le_refl _) _)) (by decide) q HQ2.out).mono ?_; rintro e w1 ⟨rfl, hp, ho⟩; have HP1 := hp; have HO1 := ho; clear hp ho))
 rw [← hus0] at HP1
 have HB := Kept.mk (BS.hold (res_on HO1.out HGl.out rfl) HP1.out (only_alloc HO1.out) HGl.out #[.int .i64 1, .bool q, .string ⟨#[]⟩, .slice none 0 0, .slice none 0 0, .slice none 0 0, .slice none 0 0, .slice none 0 0])
 have HG : Kept (Gr (fun _ => False) (w1.alloc (.cells #[.int .i64 1, .bool q, .string ⟨#[]⟩, .slice none 0 0, .slice none 0 0, .slice none 0 0, .slice none 0 0, .slice none 0 0] 31)) (w1.heap.size + 1) 31 8 NC (.slice none 0 0) []) := ⟨Gr.nil nc_stable _ _ _ _ _⟩
 generalize hW : w1.alloc (.cells #[.int .i64 1, .bool q, .string ⟨#[]⟩, .slice none 0 0, .slice none 0 0, .slice none 0 0, .slice none 0 0, .slice none 0 0] 31) = w2 at *
 clear hW
 generalize hnb : w1.heap.size = nb at *
 clear hnb HP1 HO1
 obtain ⟨tiKids, zKids, hftKids⟩ := fitsKids (nb) g 129 (fun W => by kernel_rfl)
 have FTKids := Kept.mk hftKids
 clear hftKids
 have HZ : Kept (∀ b, (fun _ => False) b → b < w2.heap.size) := ⟨fun _ h => h.elim⟩
 refine grow nc_stable (n := 3) (p := 0) (t := 7) (fo := 7) (off := 7) (nt := 31) (lt := 29) (et := 31) (pt := 94) (rt := 31) (f := 129) (fun d _ _ _ _ h => by cases d <;> exact h) FTKids.out (by kernel_rfl) (by kernel_rfl) (by decide) (by decide) (by simp) rfl rfl HB.out.row rfl HG.out HB.out.pm HZ.out rfl (by have := HB.out.gn; have := HB.out.nr; omega) (by simp) (by decide) (fun W h => HC.out W us0 h) valNode ?_ ?_
 · intro c1 w3 he ho a' hd
   have hR := HR.out
   rw [he] at hR
   refine ⟨hd, ?_⟩
   rw [hR]
   exact ⟨rfl, ⟨only_two HB.out.only ho.out⟩⟩
 · intro k0 r hx w3 v' bz' u s q1 hrow hgr hpm hz1 hz2 hz3 honly hlies
   have HR2 : Kept (R0 = match pipeF c (r.length + 1) [k0] r with | .error e => .error e | .ok (ks, r2) => if ks.length = 1 ∧ isT 0 [33] ts = false then .ok (k0, r2) else .ok (.mk 1 (isT 0 [33] ts) [] [] [] [] [] ks, r2)) := ⟨by rw [HR.out, hx]⟩
   have HB3 := Kept.mk (HB.out.grown hrow.out hpm.out honly.out (fun o h => by cases h))
   have HG3 := hgr
   have HZ3 := Kept.mk hz3
   have HFew := Kept.mk HB3.out.pm.few
   clear hrow hpm honly hlies hz1 hz2 hz3 hgr HR hx HB HG HZ
   simp only [Act.put, List.setIfInBounds_toArray, List.set_cons_zero, List.set_cons_succ]
   go_wp2_with fail
   go_loopg [] r.length (fun m wr => ∃ us rest vk bz k, us.length ≤ m ∧ Kept (BS w wr g d nb #[.int .i64 1, .bool q, .string ⟨#[]⟩, .slice none 0 0, .slice none 0 0, .slice none 0 0, .slice none 0 0, vk] us) ∧ Kept (Gr bz wr (nb + 1) 31 8 NC vk (k0 :: rest)) ∧ Kept (∀ b, bz b → b < wr.heap.size) ∧ Kept (rest.length + us.length ≤ 20000) ∧ Kept (us.length + 1 ≤ k) ∧ Kept (R0 = match pipeF c k (k0 :: rest) us with | .error e => .error e | .ok (ks, r2) => if ks.length = 1 ∧ isT 0 [33] ts = false then .ok (k0, r2) else .ok (.mk 1 (isT 0 [33] ts) [] [] [] [] [] ks, r2)))
   case atStart => exact ⟨r, [], v', bz', r.length + 1, Nat.le_refl _, HB3, HG3, HZ3, ⟨by have := HFew.out; simpa using this⟩, ⟨Nat.le_refl _⟩, HR2⟩
   case round =>
     obtain ⟨us, rest, vk, bz, k, hm, HB, HG, HZ, HKs, HN, HRr⟩ := hrel
     have HM := Kept.mk hm
     clear hm HR2 HB3 HG3 HZ3
     cases he : isT 1 [124] us with
     | false =>
       have HE : Kept (false = decide (textT us = toL ⟨#[124]⟩)) := ⟨he.symm.trans (at_op HB.out.pm.good (by decide)).symm⟩
       have HRes : Kept (R0 = if (k0 :: rest).length = 1 ∧ q = false then .ok (k0, us) else .ok (.mk 1 q [] [] [] [] [] (k0 :: rest), us)) := ⟨by
         rw [HRr.out]
         obtain ⟨k, rfl⟩ : ∃ j, k = j + 1 := ⟨k - 1, by have := HN.out; omega⟩
         rw [pipeF, if_neg (by rw [he]; decide), ← HQ.out]⟩
       clear he HRr
       go_upto_region 6 with (first
         | (go_at_call 96; refine (accept_any _ g d us ⟨#[124]⟩ HB.out.pm (by decide) false HE.out).mono ?_; rintro e w4 ⟨rfl, hp, ho⟩; have HPe := hp; have HOe := ho; clear hp ho))
       have HB4 := Kept.mk (HB.out.mv HOe.out HPe.out)
       have HG4 : Kept (Gr bz w4 (nb + 1) 31 8 NC vk (k0 :: rest)) := ⟨HG.out.on nc_stable (B := (· = g)) HOe.out (fun b h1 h2 => by have := HB.out.gn; have := HB.out.nr; omega) (fun o h1 h2 => by have := HG.out.lt o h1; have := HB.out.gn; have := HB.out.nr; omega) (fun _ h => h) (fun _ _ h => h)⟩
       clear HB HG HZ HOe HPe
       obtain ⟨A5, k5, rfl⟩ := HG4.out.slice
       have c7 := cell_of_row _ _ 7 _ _ _ HB4.out.row
       have c1 := cell_of_row _ _ 1 _ _ _ HB4.out.row
       cases rest with
       | nil =>
         cases q with
         | false =>
           have HRe2 : Kept (R0 = .ok (k0, us)) := ⟨by rw [HRes.out, if_pos ⟨rfl, rfl⟩]⟩
           go_upto_region 7 with fail
           clear c7 c1
           obtain ⟨kg, cap, cells, hve, hrg, hc8, hone, hnv⟩ := gr_first HG4.out
           injection hve with hv1 hv2 hv3
           subst hv1 hv3
           obtain ⟨old, hres, ho8⟩ := HB4.out.res
           have HDn := Kept.mk (HB4.out.pass cells.toArray)
           have HF := Kept.mk (fun cs : Array Value => nv_fin hnv (r := w.heap.size) (n := w.heap.size) (by have := HB4.out.nr; omega) (by have := HB4.out.nr; omega) cs)
           have hcell := cell_of_row _ _ 7 _ _ _ HB4.out.row
           refine App.first (n := 3) (r := 2) (t := 34) (fo := 7) (off := 7) (nt := 31) (lt := 29) (rb := w.heap.size) (v := .slice (some ⟨kg, 0, none⟩) 1 k5) (by kernel_rfl) (by simp [go_sem, hcell]) (ixNode kg _ 1 (by decide) _) rfl hrg Tryz.underlying31 rfl (by rw [hc8]; kernel_rfl) hres (by rw [hc8]; exact ho8) hone rfl rfl (by decide) (by simp) ?_
           clear hrg hone hres hnv hcell
           go_wp2_with fail
           refine bodyPost_ret (results_cell_row rfl _ _ w.heap.size _ _ (0, 0) _ rfl HDn.out.1 Tryz.underlying31 rfl (by rw [List.size_toArray, hc8]; kernel_rfl)) rfl ?_
           rw [HRe2.out]
           exact ⟨_, rfl, ⟨HF.out _⟩, ⟨HDn.out.2.1⟩, ⟨HDn.out.2.2⟩⟩
         | true =>
           have HRe2 : Kept (R0 = .ok (.mk 1 true [] [] [] [] [] [k0], us)) := ⟨by rw [HRes.out, if_neg (by simp)]⟩
           go_upto_region 8 with fail
           clear c7 c1
           obtain ⟨old, hres, ho8⟩ := HB4.out.res
           have HOld := Kept.mk hres
           have HD := Kept.mk HB4.out.done
           have HK := Kept.mk (fun cs : Array Value => nl_done (sl_nl (HG4.out.read nc_stable (by decide))) (r := w.heap.size) (n := w.heap.size) (by have := HB4.out.nr; omega) (by have := HB4.out.nr; omega) cs)
           clear hres
           refine App.give (n := 3) (r := 2) (t := 38) (nt := 31) (rb := w.heap.size) HB4.out.row HOld.out Tryz.underlying31 rfl (by kernel_rfl) ho8 (all_node _ _ _ _ _ _ _ _ _ _ _ _ _ _ _ _ _ _) rfl rfl (by decide) (by simp) ?_
           go_wp2_with fail
           refine bodyPost_ret (results_cell_row rfl _ _ w.heap.size _ _ (0, 0) _ rfl HD.out.1 Tryz.underlying31 rfl (by kernel_rfl)) rfl ?_
           rw [HRe2.out]
           exact ⟨_, rfl, ⟨nv_kids (n := []) (HK.out _)⟩, ⟨HD.out.2.1⟩, ⟨HD.out.2.2⟩⟩
       | cons k1 rest =>
         have HRe2 : Kept (R0 = .ok (.mk 1 q [] [] [] [] [] (k0 :: k1 :: rest), us)) := ⟨by rw [HRes.out, if_neg (by simp)]⟩
         have hL : (((k0 :: k1 :: rest).length : Nat) : Int) ≠ 1 := by simp; omega
         generalize (k0 :: k1 :: rest).length = L at *
         have hL2 : ((L : Int) == 1) = false := beq_eq_false_iff_ne.2 hL
         have hL3 : ¬ L = 1 := by omega
         go_upto_region 8 with fail
         clear c7 c1 hL hL2 hL3
         obtain ⟨old, hres, ho8⟩ := HB4.out.res
         have HOld := Kept.mk hres
         have HD := Kept.mk HB4.out.done
         have HK := Kept.mk (fun cs : Array Value => nl_done (sl_nl (HG4.out.read nc_stable (by decide))) (r := w.heap.size) (n := w.heap.size) (by have := HB4.out.nr; omega) (by have := HB4.out.nr; omega) cs)
         clear hres
         refine App.give (n := 3) (r := 2) (t := 38) (nt := 31) (rb := w.heap.size) HB4.out.row HOld.out Tryz.underlying31 rfl (by kernel_rfl) ho8 (all_node _ _ _ _ _ _ _ _ _ _ _ _ _ _ _ _ _ _) rfl rfl (by decide) (by simp) ?_
         go_wp2_with fail
         refine bodyPost_ret (results_cell_row rfl _ _ w.heap.size _ _ (0, 0) _ rfl HD.out.1 Tryz.underlying31 rfl (by kernel_rfl)) rfl ?_
         rw [HRe2.out]
         exact ⟨_, rfl, ⟨nv_kids (n := []) (HK.out _)⟩, ⟨HD.out.2.1⟩, ⟨HD.out.2.2⟩⟩
     | true =>
       have HE : Kept (true = decide (textT us = toL ⟨#[124]⟩)) := ⟨he.symm.trans (at_op HB.out.pm.good (by decide)).symm⟩
       have HRc : Kept (match c (lines us.tail) with | .error e => R0 = .error e | .ok (x, r2) => ∃ j, k = j + 1 ∧ r2.length < us.length ∧ R0 = match pipeF c j (k0 :: rest ++ [x]) r2 with | .error e => .error e | .ok (ks, r2) => if ks.length = 1 ∧ isT 0 [33] ts = false then .ok (k0, r2) else .ok (.mk 1 (isT 0 [33] ts) [] [] [] [] [] ks, r2)) := ⟨by
         obtain ⟨j, rfl⟩ : ∃ j, k = j + 1 := ⟨k - 1, by have := HN.out; omega⟩
         have := HRr.out
         rw [pipeF, if_pos he] at this
         cases hcu : c (lines us.tail) with
         | error e => rw [hcu] at this; exact this
         | ok z =>
           rw [hcu] at this
           exact ⟨j, rfl, by have := HLt.out _ _ _ hcu; have := lines_le us.tail; have := tail_le us; omega, this⟩⟩
       clear he HRr
       go_upto_region 5 with (first
         | (go_at_call 96; refine (accept_any _ g d us ⟨#[124]⟩ HB.out.pm (by decide) true HE.out).mono ?_; rintro e w4 ⟨rfl, hp, ho⟩; have HPe := hp; have HOe := ho; clear hp ho)
         | (go_at_call 55; refine (skipLines_any _ g d us.tail HPe.out).mono ?_; rintro e w5 ⟨rfl, hp, ho⟩; have HPf := hp; have HOf := ho; clear hp ho))
       have HB4 := Kept.mk (HB.out.mv (only_two HOe.out HOf.out) HPf.out)
       have HG4 : Kept (Gr bz w5 (nb + 1) 31 8 NC vk (k0 :: rest)) := ⟨HG.out.on nc_stable (B := (· = g)) (only_two HOe.out HOf.out) (fun b h1 h2 => by have := HB.out.gn; have := HB.out.nr; omega) (fun o h1 h2 => by have := HG.out.lt o h1; have := HB.out.gn; have := HB.out.nr; omega) (fun _ h => h) (fun _ _ h => h)⟩
       have HZ4 : Kept (∀ b, bz b → b < w5.heap.size) := ⟨fun b h => Nat.lt_of_lt_of_le (HZ.out b h) (only_two HOe.out HOf.out).size⟩
       clear HB HG HZ HOe HPe HOf HPf
       refine grow nc_stable (n := 3) (p := 0) (t := 18) (fo := 7) (off := 7) (nt := 31) (lt := 29) (et := 31) (pt := 94) (rt := 31) (f := 129) (fun d _ _ _ _ h => by cases d <;> exact h) FTKids.out (by kernel_rfl) (by kernel_rfl) (by decide) (by decide) (by simp) rfl rfl HB4.out.row rfl HG4.out HB4.out.pm HZ4.out rfl (by have := HB4.out.gn; have := HB4.out.nr; omega) (by have := HKs.out; simp; omega) (by decide) (fun W h => HC.out W _ h) valNode ?_ ?_
       · intro e w6 he ho a' hd
         have hR := HRc.out
         rw [he] at hR
         refine ⟨hd, ?_⟩
         rw [hR]
         exact ⟨rfl, ⟨only_two HB4.out.only ho.out⟩⟩
       · intro x r2 hx w6 v2 bz2 u2 s2 q2 hrow hgr hpm hz1 hz2 hz3 honly hlies
         have hR := HRc.out
         rw [hx] at hR
         obtain ⟨j, rfl, hlt, hRj⟩ := hR
         have HRj := Kept.mk hRj
         have HLt2 := Kept.mk hlt
         have HB5 := Kept.mk (HB4.out.grown hrow.out hpm.out honly.out (fun o h => by have := HG4.out.lt o h; omega))
         have HG5 := hgr
         have HZ5 := Kept.mk hz3
         clear hrow hpm honly hlies hz1 hz2 hz3 hRj hlt hgr HRc hx
         simp only [Act.put, List.setIfInBounds_toArray, List.set_cons_zero, List.set_cons_succ]
         go_wp2_with fail
         go_roundg r2.length
         case measure => have := HM.out; have := HLt2.out; omega
         case rel => exact ⟨r2, rest ++ [x], v2, bz2, j, Nat.le_refl _, HB5, HG5, HZ5, ⟨by have := HKs.out; have := HLt2.out; rw [List.length_append, List.length_singleton]; omega⟩, ⟨by have := HN.out; have := HLt2.out; omega⟩, HRj⟩
end Sy
end
end Go.Proofs.YtahjonfmhejoeaaGreatDoor
