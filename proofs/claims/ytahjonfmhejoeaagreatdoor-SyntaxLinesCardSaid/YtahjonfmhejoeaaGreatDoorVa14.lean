/-
  Parts of the proof, merged.
-/
import Derived.Test.YtahjonfmhejoeaaGreatDoorVa13
namespace Go.Proofs.YtahjonfmhejoeaaGreatDoor
section
open Go.RowKit Tx
namespace Sy
open Lx (Tok tv tvs tvs_at Qt pan)
open Wx (Pt LV)
section
variable {w w' : World} {g d : Nat} {ts : List Tok}
theorem PM.lt (h : PM w g d ts) : g < w.heap.size := by
 obtain ⟨A, k, m, hr, _⟩ := h.row
 exact (Array.getElem?_eq_some_iff.1 hr).1
theorem Mp.same {m : Nat} (h : Mp w m) (hb : w'.heap[m]? = w.heap[m]?) : Mp w' m := by
 obtain ⟨es, clock, h1, h2⟩ := h
 exact ⟨es, clock, hb.trans h1, h2⟩
theorem Mp.lt {m : Nat} (h : Mp w m) : m < w.heap.size := by
 obtain ⟨es, clock, h1, _⟩ := h
 exact (Array.getElem?_eq_some_iff.1 h1).1
theorem PM.on {d' : Nat} {us : List Tok} (h : PM w g d ts) (ho : Only (· = g) w w') (hr : ∃ A k m, w'.heap[g]? = some (.cells #[.slice A us.length k, .int .i64 (d' : Int), .map (some m)] 52 (0, 0)) ∧ TS w' g (.slice A us.length k) us ∧ Mp w' m ∧ m < g)
   (hg : GoodL us) (hf : us.length ≤ ts.length) (hs : ∀ t ∈ us, t.text.length ≤ 2500) (hd : d' ≤ 40) : PM w' g d' us := by
 have hlt := h.lt
 have ha := h.ahead
 have hk := h.kit.lt
 refine ⟨hr, h.kit.keep (ho.block _ hk.1 (Nat.ne_of_lt ha.1)) (ho.block _ hk.2 (Nat.ne_of_lt ha.2)), ha, hg, Nat.le_trans hf h.few, hs, hd⟩
theorem PM.keep (h : PM w g d ts) (ho : Only (· = g) w w') (hb : w'.heap[g]? = w.heap[g]?) : PM w' g d ts := by
 obtain ⟨A, k, m, hr, ht, hm, hmg⟩ := h.row
 exact h.on ho ⟨A, k, m, hb.trans hr, ht.same (fun i hi hl => ho.block i hl (Nat.ne_of_lt hi)) ho.size, hm.same (ho.block m hm.lt (Nat.ne_of_lt hmg)), hmg⟩ h.good (Nat.le_refl _) h.short h.deep
theorem PM.below (h : PM w g d ts) (hb : Below w.heap.size w w') : PM w' g d ts := h.keep ((Only.refl _ _).below hb) (hb.block g h.lt)
theorem PM.drew (h : PM w g d ts) : PM w.drew g d ts := h.below (Below.refl _ _).drew
theorem PM.drewN (h : PM w g d ts) (n : Nat) : PM (w.drewN n) g d ts := h.below (below_drewN (Below.refl _ _) n)
end
theorem fld0 (k : Int) (x : ByteArray) (W : World) : (Instr.field 92 (.agg #[.int .i64 k, .string x]) 0).run Tryz.prog W = .ok (.int .i64 k) W := by kernel_rfl
theorem fld1 (k : Int) (x : ByteArray) (W : World) : (Instr.field 92 (.agg #[.int .i64 k, .string x]) 1).run Tryz.prog W = .ok (.string x) W := by kernel_rfl
set_option maxRecDepth 100000 in
theorem ended_any (w : World) (g d : Nat) (ts : List Tok) (h : PM w g d ts) (t : Bool) (ht : t = ts.isEmpty) :
   Calls Tryz.prog 27 #[.pointer (some ⟨g, 0, none⟩)] w fun e w' => e = .returned (.bool t) ∧ w = w' := by
 obtain ⟨A, k, m, hr, _⟩ := h.row
 have c0 := cell_of_row w g 0 _ _ _ hr
 have HT : Kept (((ts.length : Int) == 0) = t) := ⟨by subst ht; cases ts <;> simp; omega⟩
 generalize ts.length = n at *
 clear h ht hr
 go_enter Tryz.func27, Tryz.ntmps27
 go_wp2_with fail
 go_ret
 exact ⟨by rw [← HT.out]; rfl, rfl⟩
set_option maxHeartbeats 1000000 in
set_option maxRecDepth 100000 in
theorem next_any (w : World) (g d : Nat) (ts : List Tok) (h : PM w g d ts) :
   Calls Tryz.prog 103 #[.pointer (some ⟨g, 0, none⟩)] w fun e w' => e = .returned (.agg #[.int .i64 (kindT ts), .string (bs (textT ts))]) ∧ Below w.heap.size w w' := by
 have H := Kept.mk h
 cases ts with
 | nil =>
   clear h
   go_enter Tryz.func103, Tryz.ntmps103
   go_wp2_with (go_at_call 27; refine (ended_any _ g d [] (H.out.below ((Below.refl _ _).alloc (Nat.le_refl _) _)) true rfl).mono ?_; rintro e w1 ⟨rfl, rfl⟩)
   refine bodyPost_ret (results_cell_row rfl _ _ w.heap.size _ _ (0, 0) _ rfl (heap_alloc_new w _) Tryz.underlying92 rfl (by kernel_rfl)) rfl ?_
   exact ⟨rfl, (Below.refl _ _).alloc (Nat.le_refl _) _⟩
 | cons t r =>
   obtain ⟨A, k, m, hr, htk, _⟩ := h.row
   obtain ⟨tg, off, rfl, hn, hc0, hc1⟩ := htk.head
   have c0 := cell_of_row w g 0 _ _ _ hr
   have hlt : tg < w.heap.size := World.block_lt_of_cell? w _ hc0
   have hglt := h.lt
   have d0 : (w.alloc (.cells #[.int .i64 0, .string ⟨#[]⟩] 92)).cell? ⟨g, 0, none⟩ = some (.slice (some ⟨tg, off, none⟩) (t :: r).length k) := (World.cell?_of_block (a := ⟨g, 0, none⟩) (Below.heap_alloc w _ g hglt)).trans c0
   have d1 : (w.alloc (.cells #[.int .i64 0, .string ⟨#[]⟩] 92)).cell? ⟨tg, off, none⟩ = some (.int .i64 t.kind) := (World.cell?_of_block (a := ⟨tg, off, none⟩) (Below.heap_alloc w _ tg hlt)).trans hc0
   have d2 : (w.alloc (.cells #[.int .i64 0, .string ⟨#[]⟩] 92)).cell? ⟨tg, off + 1, none⟩ = some (.string (bs t.text)) := (World.cell?_of_block (a := ⟨tg, off + 1, none⟩) (Below.heap_alloc w _ tg hlt)).trans hc1
   have hn0 : ¬ (t :: r).length = 0 := by simp
   generalize hL : (t :: r).length = n at d0 hn0
   have hn1 : (0 : Int) < (n : Int) := by omega
   clear h hr htk c0 hc0 hc1 hn hL hglt
   go_enter Tryz.func103, Tryz.ntmps103
   go_wp2_with (go_at_call 27; refine (ended_any _ g d (t :: r) (H.out.below ((Below.refl _ _).alloc (Nat.le_refl _) _)) false rfl).mono ?_; rintro e w1 ⟨rfl, rfl⟩)
   refine bodyPost_ret (results_cell_row rfl _ _ w.heap.size _ _ (0, 0) _ rfl (heap_alloc_new w _) Tryz.underlying92 rfl (by kernel_rfl)) rfl ?_
   exact ⟨rfl, (Below.refl _ _).alloc (Nat.le_refl _) _⟩
set_option maxRecDepth 100000 in
theorem at_any (w : World) (g d : Nat) (ts : List Tok) (x : ByteArray) (h : PM w g d ts) (t : Bool) (ht : t = decide (textT ts = toL x)) :
   Calls Tryz.prog 93 #[.pointer (some ⟨g, 0, none⟩), .string x] w fun e w' => e = .returned (.bool t) ∧ Below w.heap.size w w' := by
 have H := Kept.mk h
 have HT : Kept (((bs (textT ts)).toList == x.toList) = t) := ⟨by
   rw [beq_str, ht, decide_eq_decide]
   exact ⟨fun e => by rw [← e, toL_bs], fun e => by rw [e, bs_toL]⟩⟩
 clear h ht
 have hF0 := fld0
 have hF1 := fld1
 go_enter Tryz.func93, Tryz.ntmps93
 go_wp2_with (go_at_call 103; refine (next_any _ g d ts H.out).mono ?_; rintro e w1 ⟨rfl, hb⟩; have HB := Kept.mk hb; clear hb)
 go_ret
 exact ⟨by rw [← HT.out]; rfl, HB.out⟩
set_option maxHeartbeats 1000000 in
set_option maxRecDepth 100000 in
theorem skip_any (w : World) (g d : Nat) (t : Tok) (r : List Tok) (h : PM w g d (t :: r)) :
   Calls Tryz.prog 92 #[.pointer (some ⟨g, 0, none⟩)] w fun e w' => e = .returned (.tuple #[]) ∧ Kept (PM w' g d r) ∧ Kept (Only (· = g) w w') := by
 obtain ⟨A, k, m, hr, htk, hm, hmg⟩ := h.row
 obtain ⟨A', k', hs, htk'⟩ := htk.tail
 have hsl := tokFrom A (t :: r).length k (by simp)
 rw [hs] at hsl
 have c0 := cell_of_row w g 0 _ _ _ hr
 have f0 := frozen_of_row w g 0 _ _ hr
 have HO : Kept (Only (· = g) w (w.setCell ⟨g, 0, none⟩ (.slice A' r.length k'))) := ⟨(Only.refl _ _).setCell _ _ (fun _ => rfl)⟩
 have HP : Kept (PM (w.setCell ⟨g, 0, none⟩ (.slice A' r.length k')) g d r) := ⟨h.on HO.out ⟨A', k', m, by
     have := heap_setCell_same w g 0 _ _ (.slice A' r.length k') hr
     simpa using this, htk'.same (fun i hi hl => HO.out.block i hl (Nat.ne_of_lt hi)) HO.out.size, hm.same (HO.out.block m hm.lt (Nat.ne_of_lt hmg)), hmg⟩ h.good.tail (by simp) (fun x hx => h.short x (by simp [hx])) h.deep⟩
 generalize (t :: r).length = n at *
 generalize r.length = n' at *
 clear h hr htk hs htk' hm
 go_enter Tryz.func92, Tryz.ntmps92
 go_wp2_with fail
 refine bodyPost_end (results_none rfl _ _ _) rfl ?_
 exact ⟨rfl, HP, HO⟩
theorem only_below {w w1 w2 : World} {g : Nat} (h : Below w.heap.size w w1) (k : Only (· = g) w1 w2) : Only (· = g) w w2 := ((Only.refl _ _).below h).trans k fun _ _ e => e
theorem only_on {w w1 w2 : World} {g : Nat} (h : Only (· = g) w w1) (k : Below w1.heap.size w1 w2) : Only (· = g) w w2 := h.below k
theorem only_two {w w1 w2 : World} {g : Nat} (h : Only (· = g) w w1) (k : Only (· = g) w1 w2) : Only (· = g) w w2 := h.trans k fun _ _ e => e
set_option maxRecDepth 100000 in
theorem accept_any (w : World) (g d : Nat) (ts : List Tok) (x : ByteArray) (h : PM w g d ts) (hx : x.size ≠ 0) (t : Bool) (ht : t = decide (textT ts = toL x)) :
   Calls Tryz.prog 96 #[.pointer (some ⟨g, 0, none⟩), .string x] w fun e w' => e = .returned (.bool t) ∧ Kept (PM w' g d (if t then ts.tail else ts)) ∧ Kept (Only (· = g) w w') := by
 have H := Kept.mk h
 have HT := Kept.mk ht
 cases t with
 | false =>
   clear h ht
   go_enter Tryz.func96, Tryz.ntmps96
   go_wp2_with (go_at_call 93; refine (at_any _ g d ts x H.out false HT.out).mono ?_; rintro e w1 ⟨rfl, hb⟩; have HB := Kept.mk hb; clear hb)
   go_ret
   exact ⟨rfl, ⟨H.out.below HB.out⟩, ⟨(Only.refl _ _).below HB.out⟩⟩
 | true =>
   cases ts with
   | nil =>
     exfalso
     have : ([] : List UInt8) = toL x := of_decide_eq_true ht.symm
     have h2 := toL_length x
     rw [← this] at h2
     exact hx h2.symm
   | cons u r =>
     clear h ht
     go_enter Tryz.func96, Tryz.ntmps96
     go_wp2_with (first
       | (go_at_call 93; refine (at_any _ g d (u :: r) x H.out true HT.out).mono ?_; rintro e w1 ⟨rfl, hb⟩; have HB := Kept.mk hb; clear hb)
       | (go_at_call 92; refine (skip_any _ g d u r (H.out.below HB.out)).mono ?_; rintro e w2 ⟨rfl, hp, ho⟩; have HP := hp; have HO := ho; clear hp ho))
     go_ret
     exact ⟨rfl, HP, ⟨only_below HB.out HO.out⟩⟩
set_option maxRecDepth 100000 in
theorem take_any (w : World) (g d : Nat) (u : Tok) (r : List Tok) (h : PM w g d (u :: r)) :
   Calls Tryz.prog 97 #[.pointer (some ⟨g, 0, none⟩)] w fun e w' => e = .returned (.string (bs u.text)) ∧ Kept (PM w' g d r) ∧ Kept (Only (· = g) w w') := by
 have H := Kept.mk h
 clear h
 have hF0 := fld0
 have hF1 := fld1
 go_enter Tryz.func97, Tryz.ntmps97
 go_wp2_with (first
   | (go_at_call 103; refine (next_any _ g d (u :: r) H.out).mono ?_; rintro e w1 ⟨rfl, hb⟩; have HB := Kept.mk hb; clear hb)
   | (go_at_call 92; refine (skip_any _ g d u r (H.out.below HB.out)).mono ?_; rintro e w2 ⟨rfl, hp, ho⟩; have HP := hp; have HO := ho; clear hp ho))
 go_ret
 exact ⟨rfl, HP, ⟨only_below HB.out HO.out⟩⟩
set_option maxRecDepth 100000 in
theorem atWord_any (w : World) (g d : Nat) (ts : List Tok) (h : PM w g d ts) (t : Bool) (ht : t = wordT ts) :
   Calls Tryz.prog 100 #[.pointer (some ⟨g, 0, none⟩)] w fun e w' => e = .returned (.bool t) ∧ Below w.heap.size w w' := by
 have H := Kept.mk h
 cases ts with
 | nil =>
   obtain rfl : t = false := ht
   clear h
   have hF0 := fld0
   have hF1 := fld1
   go_enter Tryz.func100, Tryz.ntmps100
   go_wp2_with (first
     | (go_at_call 27; refine (ended_any _ g d [] H.out true rfl).mono ?_; rintro e w1 ⟨rfl, rfl⟩))
   go_ret
   exact ⟨rfl, Below.refl _ _⟩
 | cons u r =>
   have HT : Kept ((u.kind == 0) = t) := ⟨ht.symm⟩
   clear h ht
   have hF0 := fld0
   have hF1 := fld1
   go_enter Tryz.func100, Tryz.ntmps100
   go_wp2_with (first
     | (go_at_call 27; refine (ended_any _ g d (u :: r) H.out false rfl).mono ?_; rintro e w1 ⟨rfl, rfl⟩)
     | (go_at_call 103; refine (next_any _ g d (u :: r) H.out).mono ?_; rintro e w1 ⟨rfl, hb⟩; have HB := Kept.mk hb; clear hb))
   go_ret
   exact ⟨by rw [← HT.out]; rfl, HB.out⟩
end Sy
end
section
open Go.RowKit Tx
namespace Sy
open Lx (Tok tv tvs tvs_at Qt pan)
open Wx (Pt LV)
def chk (t : Bool) (f : Int) (w : World) (e : Ending) (w' : World) : Prop :=
 match t with
 | true => e = .returned (.tuple #[]) ∧ w = w'
 | false => e = .panicked (pan f) ∧ w = w'
set_option maxRecDepth 100000 in
theorem check_any (w : World) (t : Bool) (f : Int) : Calls Tryz.prog 26 #[.bool t, .int .i64 f] w (chk t f w) := by
 cases t with
 | true =>
   go_enter Tryz.func26, Tryz.ntmps26
   go_wp2_with fail
   refine bodyPost_end (results_none rfl _ _ _) rfl ?_
   exact ⟨rfl, rfl⟩
 | false =>
   go_enter Tryz.func26, Tryz.ntmps26
   go_wp2_with fail
   first | exact ⟨rfl, rfl, rfl⟩ | exact ⟨rfl, rfl⟩
def RE {α : Type} (w : World) (g d : Nat) (val : World → Value → α → Prop) (r : R α) (e : Ending) (w' : World) : Prop :=
 match r with
 | .ok (v, us) => ∃ u, e = .returned u ∧ Kept (val w' u v) ∧ Kept (PM w' g d us) ∧ Kept (Only (· = g) w w')
 | .error c => e = .panicked (pan c) ∧ Kept (Only (· = g) w w')
def unitV (_ : World) (u : Value) (_ : Unit) : Prop := u = .tuple #[]
def exp (t : Bool) (ts : List Tok) : R Unit := if t then .ok ((), ts.tail) else .error 100
set_option maxRecDepth 100000 in
theorem expect_any (w : World) (g d : Nat) (ts : List Tok) (x : ByteArray) (h : PM w g d ts) (hx : x.size ≠ 0) (t : Bool) (ht : t = decide (textT ts = toL x)) :
   Calls Tryz.prog 90 #[.pointer (some ⟨g, 0, none⟩), .string x] w (RE w g d unitV (exp t ts)) := by
 have H := Kept.mk h
 have HT := Kept.mk ht
 have HX := Kept.mk hx
 clear h ht hx
 cases t with
 | true =>
   go_enter Tryz.func90, Tryz.ntmps90
   go_wp2_with (first
     | (go_at_call 96; refine (accept_any _ g d ts x H.out HX.out true HT.out).mono ?_; rintro e w1 ⟨rfl, hp, ho⟩; have HP := hp; have HO := ho; clear hp ho)
     | (go_at_call 26; refine (check_any _ true 100).mono ?_; rintro e w2 ⟨rfl, rfl⟩))
   refine bodyPost_end (results_none rfl _ _ _) rfl ?_
   exact ⟨_, rfl, ⟨rfl⟩, HP, HO⟩
 | false =>
   go_enter Tryz.func90, Tryz.ntmps90
   go_wp2_with (first
     | (go_at_call 96; refine (accept_any _ g d ts x H.out HX.out false HT.out).mono ?_; rintro e w1 ⟨rfl, hp, ho⟩; have HP := hp; have HO := ho; clear hp ho)
     | (go_at_call 26; refine (check_any _ false 100).mono ?_; rintro e w2 ⟨rfl, rfl⟩))
   first | exact ⟨rfl, rfl, HO⟩ | exact ⟨rfl, HO⟩
theorem kindT_line {ts : List Tok} (h : GoodL ts) : ((kindT ts : Int) == 2) = isT 2 [10] ts := by
 rw [← at_line h]
 by_cases e : kindT ts = 2
 · rw [e]; rfl
 · rw [decide_eq_false e, beq_eq_false_iff_ne.2 e]
set_option maxHeartbeats 1000000 in
set_option maxRecDepth 100000 in
theorem skipLines_any (w : World) (g d : Nat) (ts : List Tok) (h : PM w g d ts) :
   Calls Tryz.prog 55 #[.pointer (some ⟨g, 0, none⟩)] w fun e w' => e = .returned (.tuple #[]) ∧ Kept (PM w' g d (lines ts)) ∧ Kept (Only (· = g) w w') := by
 have H := Kept.mk h
 have hF0 := fld0
 have hF1 := fld1
 clear h
 go_enter Tryz.func55, Tryz.ntmps55
 go_wp2_with fail
 go_loopg [] ts.length (fun k wr => ∃ us, us.length = k ∧ Kept (PM wr g d us) ∧ Kept (lines us = lines ts) ∧ Kept (Only (· = g) w wr))
 case atStart => exact ⟨ts, rfl, H, ⟨rfl⟩, ⟨Only.refl _ _⟩⟩
 case round =>
   obtain ⟨us, hk, HU, HL, HO⟩ := hrel
   have HLn := Kept.mk (kindT_line HU.out.good)
   cases hln : isT 2 [10] us with
   | false =>
     have hz : ((kindT us : Int) == 2) = false := by rw [HLn.out, hln]
     have HE : Kept (lines ts = us) := ⟨by
       rw [← HL.out]
       cases us with
       | nil => rfl
       | cons t r => rw [lines_is, hln, if_neg (by decide)]⟩
     clear hln HLn
     go_wp2_with (go_at_call 103; refine (next_any _ g d us HU.out).mono ?_; rintro e w1 ⟨rfl, hb⟩; have HB := Kept.mk hb; clear hb)
     refine bodyPost_end (results_none rfl _ _ _) rfl ?_
     exact ⟨rfl, ⟨by rw [HE.out]; exact HU.out.below HB.out⟩, ⟨only_on HO.out HB.out⟩⟩
   | true =>
     have hz : ((kindT us : Int) == 2) = true := by rw [HLn.out, hln]
     cases us with
     | nil => cases hln
     | cons t r =>
       have HE : Kept (lines r = lines ts) := ⟨by rw [← HL.out, lines_is, hln, if_pos rfl]⟩
       clear hln HLn
       go_wp2_with (first
         | (go_at_call 103; refine (next_any _ g d (t :: r) HU.out).mono ?_; rintro e w1 ⟨rfl, hb⟩; have HB := Kept.mk hb; clear hb)
         | (go_at_call 92; refine (skip_any _ g d t r (HU.out.below HB.out)).mono ?_; rintro e w2 ⟨rfl, hp, ho⟩; have HP := hp; have HO2 := ho; clear hp ho))
       go_roundg r.length
       case measure => rw [← hk]; simp
       case rel => exact ⟨r, rfl, HP, HE, ⟨only_two (only_on HO.out HB.out) HO2.out⟩⟩
theorem lines_not {ts : List Tok} (h : isT 2 [10] ts = false) : lines ts = ts := by
 cases ts with
 | nil => rfl
 | cons t r => rw [lines_is, h, if_neg (by decide)]
def past (ts : List Tok) : List Tok := lines (if isT 1 [59] ts = true then ts.tail else ts)
set_option maxHeartbeats 1000000 in
set_option maxRecDepth 100000 in
theorem skipEnd_any (w : World) (g d : Nat) (ts : List Tok) (h : PM w g d ts) (t : Bool) (ht : t = (isT 1 [59] ts || isT 2 [10] ts)) :
   Calls Tryz.prog 58 #[.pointer (some ⟨g, 0, none⟩)] w fun e w' => e = .returned (.bool t) ∧ Kept (PM w' g d (if t then past ts else ts)) ∧ Kept (Only (· = g) w w') := by
 have H := Kept.mk h
 have hF0 := fld0
 have HA : Kept (isT 1 [59] ts = decide (textT ts = toL ⟨#[59]⟩)) := ⟨(at_op h.good (by decide)).symm⟩
 have HLn := Kept.mk (kindT_line h.good)
 clear h
 cases ha : isT 1 [59] ts with
 | true =>
   rw [ha] at HA ht
   rw [Bool.true_or] at ht
   subst ht
   have HE : Kept (past ts = lines ts.tail) := ⟨by unfold past; rw [ha, if_pos rfl]⟩
   clear ha HLn
   go_enter Tryz.func58, Tryz.ntmps58
   go_wp2_with (first
     | (go_at_call 96; refine (accept_any _ g d ts _ H.out (by decide) true HA.out).mono ?_; rintro e w1 ⟨rfl, hp, ho⟩; have HP := hp; have HO := ho; clear hp ho)
     | (go_at_call 55; refine (skipLines_any _ g d _ HP.out).mono ?_; rintro e w2 ⟨rfl, hp, ho⟩; have HP2 := hp; have HO2 := ho; clear hp ho))
   go_ret
   exact ⟨rfl, ⟨HE.out.symm ▸ HP2.out⟩, ⟨only_two HO.out HO2.out⟩⟩
 | false =>
   rw [ha] at HA
   have HE : Kept (past ts = lines ts) := ⟨by unfold past; rw [ha, if_neg (by decide)]⟩
   rw [ha, Bool.false_or] at ht
   clear ha
   cases hl : isT 2 [10] ts with
   | true =>
     rw [hl] at HLn ht
     subst ht
     have hz := HLn.out
     clear hl HLn
     go_enter Tryz.func58, Tryz.ntmps58
     go_wp2_with (first
       | (go_at_call 96; refine (accept_any _ g d ts _ H.out (by decide) false HA.out).mono ?_; rintro e w1 ⟨rfl, hp, ho⟩; have HP := hp; have HO := ho; clear hp ho)
       | (go_at_call 103; refine (next_any _ g d ts HP.out).mono ?_; rintro e w3 ⟨rfl, hb⟩; have HB := Kept.mk hb; clear hb)
       | (go_at_call 55; refine (skipLines_any _ g d ts (HP.out.below HB.out)).mono ?_; rintro e w2 ⟨rfl, hp, ho⟩; have HP2 := hp; have HO2 := ho; clear hp ho))
     go_ret
     exact ⟨rfl, ⟨HE.out.symm ▸ HP2.out⟩, ⟨only_two (only_on HO.out HB.out) HO2.out⟩⟩
   | false =>
     rw [hl] at HLn ht
     subst ht
     have hz := HLn.out
     clear hl HLn
     go_enter Tryz.func58, Tryz.ntmps58
     go_wp2_with (first
       | (go_at_call 96; refine (accept_any _ g d ts _ H.out (by decide) false HA.out).mono ?_; rintro e w1 ⟨rfl, hp, ho⟩; have HP := hp; have HO := ho; clear hp ho)
       | (go_at_call 103; refine (next_any _ g d ts HP.out).mono ?_; rintro e w3 ⟨rfl, hb⟩; have HB := Kept.mk hb; clear hb))
     go_ret
     exact ⟨rfl, ⟨HP.out.below HB.out⟩, ⟨only_on HO.out HB.out⟩⟩
theorem bsl (l : List UInt8) : (bs l).toList = l := by rw [ByteArray.toList_eq]; simp [bs]
set_option maxHeartbeats 2000000 in
set_option maxRecDepth 100000 in
theorem atListEnd_any (w : World) (g d : Nat) (ts : List Tok) (h : PM w g d ts) (t : Bool) (ht : t = ends ts) :
   Calls Tryz.prog 56 #[.pointer (some ⟨g, 0, none⟩)] w fun e w' => e = .returned (.bool t) ∧ Below w.heap.size w w' := by
 have H := Kept.mk h
 have hF1 := fld1
 have HT : Kept (t = (endW.contains (textT ts) || ts.isEmpty)) := ⟨ht.trans (ends_text h.good)⟩
 have hq : ∀ x : ByteArray, ((bs (textT ts)).toList == x.toList) = decide (textT ts = toL x) := fun x => by
   rw [beq_str, decide_eq_decide]
   exact ⟨fun e => by rw [← e, toL_bs], fun e => by rw [e, bs_toL]⟩
 have HQ := Kept.mk hq
 clear h ht hq
 go_enter Tryz.func56, Tryz.ntmps56
 go_wp2_with (first
   | (go_at_call 103; refine (next_any _ g d ts H.out).mono ?_; rintro e w1 ⟨rfl, hb⟩; have HB := Kept.mk hb; clear hb)
   | (go_at_call 27; refine (ended_any _ g d ts (H.out.below HB.out) _ rfl).mono ?_; rintro e w2 ⟨rfl, rfl⟩))
 all_goals go_ret
 all_goals refine ⟨?_, HB.out⟩
 all_goals rw [HT.out]
 all_goals clear H HT HQ HB
 all_goals congr 2
 all_goals simp_all [endW, bsl, kThen, kElif, kElse, kFi, kDo, kDone, kEsac]
end Sy
end
end Go.Proofs.YtahjonfmhejoeaaGreatDoor
