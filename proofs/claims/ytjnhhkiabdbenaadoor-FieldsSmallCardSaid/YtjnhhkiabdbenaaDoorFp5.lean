/-
  The program's splitter: a segment is taken.
-/
import Derived.Test.YtjnhhkiabdbenaaDoorFp4
import Derived.Laws.DeepStrings4
namespace Go.Proofs.YtjnhhkiabdbenaaDoor
open Go.RowKit Tx
namespace Fd
open Pm (esc escape_any one_cut toL_one take_on)

theorem SX.on {B b : Nat} {f : List UInt8} {x : St} {w : World} (h : SX B b f x w) : B ≤ w.heap.size := by
  obtain ⟨u, v, sp, h1, _⟩ := h
  have := h1.lt
  have := h1.hb
  omega
/-- A copy of a segment. -/
def sg (k : Int) (s : ByteArray) : Obj := .cells #[.int .i64 k, .string s] 32
section
variable (B b : Nat) (f : List UInt8) (x : St) (s : ByteArray) (w : World) (hx : SX B b f x w)
include hx
theorem sg_in (k : Int) : SX B b f x (w.alloc (sg k s)) ∧ Far B w (w.alloc (sg k s)) ∧ (w.alloc (sg k s)).cell? ⟨w.heap.size, 0, none⟩ = some (.int .i64 k) ∧ (w.alloc (sg k s)).cell? ⟨w.heap.size, 1, none⟩ = some (.string s) := by
  have hb : Below w.heap.size w (w.alloc (sg k s)) := (Below.refl _ _).alloc (Nat.le_refl _) _
  refine ⟨hx.below hb, Far.of hb hx.on, ?_, ?_⟩
  · exact cell_of_row _ _ 0 _ _ (0, 0) (heap_alloc_new w (sg k s))
  · exact cell_of_row _ _ 1 _ _ (0, 0) (heap_alloc_new w (sg k s))
set_option maxHeartbeats 2000000 in
set_option maxRecDepth 100000 in
theorem take_none (hs : s = ⟨#[]⟩) : Calls Tryd.prog 16 #[.pointer (some ⟨b, 0, none⟩), .agg #[.int .i64 0, .string s]] w (Left B b f x w) := by
  subst hs
  have H := Kept.mk (sg_in B b f x ⟨#[]⟩ w hx 0)
  clear hx
  unfold sg at H
  go_enter Tryd.func16, Tryd.ntmps16
  go_wp2_with fail
  go_end0
  exact ⟨rfl, ⟨H.out.1⟩, ⟨H.out.2.1⟩⟩
set_option maxHeartbeats 2000000 in
set_option maxRecDepth 100000 in
theorem take_plain (hs : s ≠ ⟨#[]⟩) (hK : KB B w) (hz : s.size ≤ 2000) (hl : x.cur.length ≤ 90000) : Calls Tryd.prog 16 #[.pointer (some ⟨b, 0, none⟩), .agg #[.int .i64 0, .string s]] w (Left B b f ⟨x.out, x.cur ++ dbl (toL s), true, false⟩ w) := by
  have hE : (s.toList == ([] : List UInt8)) = false := by
    have := beq_str s ⟨#[]⟩
    rw [decide_eq_false hs] at this
    rwa [show (⟨#[]⟩ : ByteArray).toList = [] by rw [ByteArray.toList_eq]] at this
  have hE2 : (s.toList != ([] : List UInt8)) = true := by rw [bne, hE]; rfl
  have H := Kept.mk (sg_in B b f x s w hx 0)
  have HK := Kept.mk (hK.far H.out.2.1.bel)
  have HZ := Kept.mk hz
  have HL := Kept.mk hl
  have HD : Kept ((bs (dbl (toL s))).size ≤ 100000) := ⟨by have := (dbl_length (toL s)).1; rw [bs_size]; rw [toL_length] at this; omega⟩
  unfold sg at H HK
  clear hx hK hz hs hl
  go_enter Tryd.func16, Tryd.ntmps16
  go_wp2_with fail
  go_at_call 27
  refine (doubled_any s _ HK.out.kit HZ.out).mono ?_
  rintro e w2 ⟨rfl, hb⟩
  obtain ⟨u, v, sp, hm, _⟩ := H.out.1.below hb
  have HM := Kept.mk hm
  have HB2 := Kept.mk (H.out.2.1.trans (Far.of hb H.out.1.on))
  clear hb hm
  go_wp2_with fail
  go_at_call 26
  refine (add_any B b f u v sp x.has x.out x.cur (bs (dbl (toL s))) w2 HM.out (by have := HL.out; omega) HD.out).mono ?_
  rintro e w3 ⟨rfl, v2, ⟨h3⟩, ⟨hb3⟩⟩
  rw [toL_bs] at h3
  have HE := Kept.mk (And.intro h3 (HB2.out.trans hb3))
  clear h3 hb3
  go_wp2_with fail
  go_end0
  exact ⟨rfl, ⟨u, v2, sp, HE.out.1, fun h => by cases h⟩, ⟨HE.out.2⟩⟩
set_option maxHeartbeats 2000000 in
set_option maxRecDepth 100000 in
theorem take_lit (hz : s.size ≤ 2000) (hl : x.cur.length ≤ 90000) : Calls Tryd.prog 16 #[.pointer (some ⟨b, 0, none⟩), .agg #[.int .i64 1, .string s]] w (Left B b f ⟨x.out, x.cur ++ esc (toL s), true, false⟩ w) := by
  have H := Kept.mk (sg_in B b f x s w hx 1)
  have HZ := Kept.mk hz
  have HL := Kept.mk hl
  have HD : Kept ((bs (esc (toL s))).size ≤ 100000) := ⟨by have := esc_len (toL s); rw [bs_size]; rw [toL_length] at this; omega⟩
  unfold sg at H
  clear hx hz hl
  go_enter Tryd.func16, Tryd.ntmps16
  go_wp2_with fail
  go_at_call 28
  refine (escape_any s _ HZ.out).mono ?_
  rintro e w2 ⟨rfl, hb⟩
  obtain ⟨u, v, sp, hm, _⟩ := H.out.1.below hb
  have HM := Kept.mk hm
  have HB2 := Kept.mk (H.out.2.1.trans (Far.of hb H.out.1.on))
  clear hb hm
  go_wp2_with fail
  go_at_call 26
  refine (add_any B b f u v sp x.has x.out x.cur (bs (esc (toL s))) w2 HM.out (by have := HL.out; omega) HD.out).mono ?_
  rintro e w3 ⟨rfl, v2, ⟨h3⟩, ⟨hb3⟩⟩
  rw [toL_bs] at h3
  have HE := Kept.mk (And.intro h3 (HB2.out.trans hb3))
  clear h3 hb3
  go_wp2_with fail
  go_end0
  exact ⟨rfl, ⟨u, v2, sp, HE.out.1, fun h => by cases h⟩, ⟨HE.out.2⟩⟩
omit hx in
/-- The current field ends, if it has begun. -/
theorem end_any (hx : SX B b f x w) (hl : x.out.length ≤ 90000) : Calls Tryd.prog 17 #[.pointer (some ⟨b, 0, none⟩)] w fun e w' => e = .returned (.tuple #[]) ∧ (∃ u v sp, Kept (SM B b f u v sp x.fin.out x.fin.cur false w')) ∧ Kept (Far B w w') := by
  obtain ⟨u, v, sp, hm, hok⟩ := hx
  unfold St.fin
  cases hh : x.has
  · rw [hh] at hm
    refine (end_no B b f u v sp x.out x.cur w hm).mono ?_
    rintro e w3 ⟨rfl, v2, h3, hb3⟩
    refine ⟨rfl, ⟨u, v2, sp, ?_⟩, hb3⟩
    rw [if_neg (by decide), (hok hh).2]
    exact h3
  · rw [hh] at hm
    refine (end_yes B b f u v sp x.out x.cur w hm (by omega)).mono ?_
    rintro e w3 ⟨rfl, u2, v2, h3, hb3⟩
    refine ⟨rfl, ⟨u2, v2, sp, ?_⟩, hb3⟩
    rw [if_pos rfl]
    exact h3
set_option maxHeartbeats 2000000 in
set_option maxRecDepth 100000 in
theorem take_break (hl : x.out.length ≤ 90000) : Calls Tryd.prog 16 #[.pointer (some ⟨b, 0, none⟩), .agg #[.int .i64 3, .string s]] w (Left B b f ⟨x.fin.out, x.fin.cur, x.fin.has, false⟩ w) := by
  have H := Kept.mk (sg_in B b f x s w hx 3)
  have HL := Kept.mk hl
  have HO : Kept (x.fin.has = false → x.fin.cur = []) := ⟨by
    obtain ⟨u, v, sp, hm, hok⟩ := hx
    exact fun h => ok_fin (fun hh => (hok hh).2) h⟩
  have hfh := fin_has x
  have HFh := Kept.mk hfh
  unfold sg at H
  clear hx hl hfh
  go_enter Tryd.func16, Tryd.ntmps16
  go_wp2_with fail
  go_at_call 17
  refine (end_any B b f x _ H.out.1 HL.out).mono ?_
  rintro e w3 ⟨rfl, ⟨u2, v2, sp2, ⟨h3⟩⟩, ⟨hb3⟩⟩
  have HE := Kept.mk (And.intro (h3.gap false) (H.out.2.1.trans (hb3.trans (h3.far 259 (.bool false)))))
  have d9 := h3.c9
  have f9 := h3.fz 259
  clear h3 hb3
  go_wp2_with fail
  go_end0
  exact ⟨rfl, ⟨u2, v2, false, by rw [HFh.out]; exact HE.out.1, fun _ => ⟨rfl, HO.out HFh.out⟩⟩, ⟨HE.out.2⟩⟩
set_option maxHeartbeats 2000000 in
set_option maxRecDepth 100000 in
theorem take_split (hK : KB B w) (hz : s.size ≤ 2000) (hl : x.size ≤ 40000) : Calls Tryd.prog 16 #[.pointer (some ⟨b, 0, none⟩), .agg #[.int .i64 2, .string s]] w (Left B b f (bytes f x (toL s)) w) := by
  have H := Kept.mk (sg_in B b f x s w hx 2)
  have HK := Kept.mk hK
  have HL := Kept.mk hl
  have HZ := Kept.mk hz
  have HR := Kept.mk (heap_alloc_new w (sg 2 s))
  unfold sg at H HR
  clear hx hK hl hz
  go_enter Tryd.func16, Tryd.ntmps16
  go_wp2_with fail
  go_loopw [36] (fun i wr => ∃ j : Nat, j ≤ s.size ∧ i = .int .i64 (j : Int) ∧ Kept (SX B b f (bytes f x ((toL s).take j)) wr) ∧ Kept (Far B w wr) ∧ Kept (wr.heap[w.heap.size]? = some (Obj.cells #[.int .i64 2, .string s] 32 (0, 0)))) (fun i _ => s.size - (intOf i).toNat)
  case atStart => exact ⟨0, by omega, rfl, ⟨H.out.1⟩, ⟨H.out.2.1⟩, HR⟩
  case round =>
    obtain ⟨j, hj, rfl, HX, HF, HRw⟩ := hrel
    by_cases hlt : j < s.size
    · have hl2 : (j : Int) < (s.size : Int) := by omega
      have hj1 : (j : Int) + 1 ≤ (s.size : Int) := by omega
      have hj5 : (j : Int) ≤ 2000 := by have := HZ.out; omega
      have hj0 : (0 : Int) ≤ (j : Int) := by omega
      have c1 := cell_of_row _ _ 1 _ _ (0, 0) HRw.out
      simp only [List.getElem?_toArray, List.getElem?_cons_zero, List.getElem?_cons_succ] at c1
      obtain ⟨Y, hY⟩ : ∃ Y, Y = s.extract j (j + 1) := ⟨_, rfl⟩
      have hsl : ∀ W : World, (Instr.slice 9 (.string s) (some (.int .i64 (j : Int))) (some (.int .i64 ((j : Int) + 1))) none).run Tryd.prog W = .ok (.string Y) W := fun W => by rw [hY]; exact one_cut hlt W
      have HY : Kept (toL Y = [s[j]'hlt]) := ⟨by rw [hY]; exact toL_one hlt⟩
      have HSz : Kept ((bytes f x ((toL s).take j)).size ≤ 90000) := ⟨by have := size_bytes f ((toL s).take j) x; rw [List.length_take, toL_length] at this; have := HL.out; have := HZ.out; omega⟩
      have HN : Kept (byte f (bytes f x ((toL s).take j)) (s[j]'hlt) = bytes f x ((toL s).take (j + 1))) := ⟨by rw [bytes_take f x (toL s) j (by rw [toL_length]; exact hlt)]; rfl⟩
      have HKw := Kept.mk (HK.out.far HF.out.bel)
      clear hY
      go_wp2_with fail
      go_at_call 29
      refine (split_any B b f _ (s[j]'hlt) Y wr HY.out HX.out HKw.out.kit HSz.out).mono ?_
      rintro e w3 ⟨rfl, h3, hb3⟩
      rw [HN.out] at h3
      have HF3 := Kept.mk (HF.out.trans hb3.out)
      have HR3 := Kept.mk (hb3.out.seg _ _ HRw.out)
      clear hb3 c1
      go_wp2_with fail
      go_roundw
      case rel => exact ⟨j + 1, by omega, by go_num, h3, HF3, HR3⟩
      case measure => simp [intOf]; omega
    · obtain rfl : j = s.size := by omega
      have HT : Kept (SX B b f (bytes f x (toL s)) wr) := ⟨by
        have := HX.out
        rwa [List.take_of_length_le (by rw [toL_length]; exact Nat.le_refl _)] at this⟩
      clear HX hlt
      go_wp2_with fail
      go_end0
      exact ⟨rfl, HT, HF⟩
end
/-- A segment is taken. -/
theorem take_any (B b : Nat) (f : List UInt8) (x : St) (g : Sg) (w : World) (hx : SX B b f x w) (hK : KB B w) (hk : g.kind ≤ 3) (hz : g.text.length ≤ 2000) (hl : x.size ≤ 40000) :
    Calls Tryd.prog 16 #[.pointer (some ⟨b, 0, none⟩), .agg #[.int .i64 (g.kind : Int), .string (bs g.text)]] w (Left B b f (seg f x g) w) := by
  have hz2 : (bs g.text).size ≤ 2000 := by rw [bs_size]; exact hz
  have ht : toL (bs g.text) = g.text := toL_bs _
  have hl2 := hl
  unfold St.size at hl2
  have hk2 : g.kind = 0 ∨ g.kind = 1 ∨ g.kind = 2 ∨ g.kind = 3 := by omega
  unfold seg
  rcases hk2 with h | h | h | h
  · rw [if_pos h, h]
    by_cases he : g.text = []
    · have h0 : bs g.text = ⟨#[]⟩ := by rw [he]; rfl
      have e1 : (⟨x.out, x.cur ++ dbl g.text, x.has || !g.text.isEmpty, x.gap && g.text.isEmpty⟩ : St) = x := by rw [he]; simp [dbl_nil]
      rw [e1]
      exact take_none B b f x _ w hx h0
    · have h0 : bs g.text ≠ ⟨#[]⟩ := fun e => he (bs_inj (e.trans (by rfl : (⟨#[]⟩ : ByteArray) = bs [])))
      have e1 : (⟨x.out, x.cur ++ dbl g.text, x.has || !g.text.isEmpty, x.gap && g.text.isEmpty⟩ : St) = ⟨x.out, x.cur ++ dbl g.text, true, false⟩ := by
        have : g.text.isEmpty = false := by cases hg : g.text with | nil => exact absurd hg he | cons _ _ => rfl
        rw [this]; simp
      rw [e1]
      have := take_plain B b f x _ w hx h0 hK hz2 (by omega)
      rw [ht] at this
      exact this
  · rw [if_neg (by omega), if_pos h, h]
    have := take_lit B b f x _ w hx hz2 (by omega)
    rw [ht] at this
    exact this
  · rw [if_neg (by omega), if_neg (by omega), if_pos h, h]
    have := take_split B b f x _ w hx hK hz2 hl
    rw [ht] at this
    exact this
  · rw [if_neg (by omega), if_neg (by omega), if_neg (by omega), if_pos h, h]
    exact take_break B b f x _ w hx (by omega)
end Fd
end Go.Proofs.YtjnhhkiabdbenaaDoor
