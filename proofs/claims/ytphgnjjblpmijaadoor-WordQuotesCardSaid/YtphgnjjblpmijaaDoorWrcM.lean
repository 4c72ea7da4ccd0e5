/-
  The document's double: what is within double quotes.
-/
import Derived.Test.YtphgnjjblpmijaaDoorWrbM
import Derived.Test.YtphgnjjblpmijaaDoorGrd
namespace Go.Proofs.YtphgnjjblpmijaaDoor
open Go.RowKit Tx
namespace Wx
open Lx

/-- A text's size, of a slot. -/
def szOf : Value → Nat
  | .string s => s.size
  | _ => 0
/-- A box that was made behind w. -/
structure BoxM (w w' : World) (cs : Array Value) : Prop where
  r : w'.heap[w.heap.size]? = some (.cells cs 39 (0, 0))
  bl : Below w.heap.size w w'
section
variable {w w1 w2 : World} {cs ds : Array Value}
theorem BoxM.begin (w : World) (cs : Array Value) : BoxM w (w.alloc (.cells cs 39)) cs := ⟨heap_alloc_new w _, (Below.refl _ _).alloc (Nat.le_refl _) _⟩
theorem BoxM.below (h : BoxM w w1 cs) (hb : Below w1.heap.size w1 w2) : BoxM w w2 cs := ⟨(hb.block _ (Array.getElem?_eq_some_iff.1 h.r).1).trans h.r, h.bl.trans (hb.mono h.bl.size)⟩
theorem BoxM.row (h : BoxM w w1 cs) (ds : Array Value) : BoxM w (w1.setRow w.heap.size ds) ds :=
  ⟨setRow_heap _ _ _ ds _ _ h.r, h.bl.os, h.bl.tape, h.bl.output, by rw [setRow_size]; exact h.bl.size, fun i hi => (setRow_other _ _ i _ (by omega)).trans (h.bl.block i hi)⟩
theorem BoxM.lt (h : BoxM w w1 cs) : w.heap.size + 1 ≤ w1.heap.size := (Array.getElem?_eq_some_iff.1 h.r).1
theorem LV.ahead {m : Nat} {v : Value} {l : List Pt} (h : LV (Nw m) w1 v l) (hm : w.heap.size + 1 ≤ m) (ds : Array Value) : LV (Nw m) (w1.setRow w.heap.size ds) v l :=
  h.same (fun g hP hg => ⟨hP, setRow_other _ _ g _ (by have : m ≤ g := hP; omega)⟩) (by rw [setRow_size]; exact Nat.le_refl _)
theorem LV.nw {m n : Nat} {v : Value} {l : List Pt} (h : LV (Nw m) w1 v l) (hm : n ≤ m) : LV (Nw n) w1 v l := h.mono fun _g hP _ => Nat.le_trans hm hP
theorem LV.up2 {m n k : Nat} {v : Value} {l : List Pt} (h : LV (Up (Nw m) n) w1 v l) (hm : k ≤ m) (hn : k ≤ n) : LV (Nw k) w1 v l := h.mono fun _g hP _ => hP.elim (fun h => Nat.le_trans hm h) (fun h => Nat.le_trans hn h)
end
theorem str_from {s : ByteArray} {k : Nat} (hk : k ≤ s.size) (_hs : s.size ≤ 20000) (W : World) : (Instr.slice 9 (.string s) (some (.int .i64 (k : Int))) none none).run Tryd.prog W = .ok (.string (s.extract k s.size)) W := by
  rw [run_slice_string_from_if W 9 s .i64 _ Tryd.underlying9, if_pos ⟨by omega, by omega⟩, Int.toNat_natCast]
theorem toL_rest (s : ByteArray) (k : Nat) : toL (s.extract k s.size) = (toL s).drop k := by rw [toL_extract, List.take_of_length_le (by rw [List.length_drop, toL_length]; omega)]
theorem size_rest (s : ByteArray) (k : Nat) : (s.extract k s.size).size = s.size - k := by rw [ByteArray.size_extract]; omega
theorem cons_at {s : ByteArray} (h0 : 0 < s.size) : toL s = s[0]'h0 :: (toL s).drop 1 := by have := drop_at h0; rwa [List.drop_zero] at this
set_option maxHeartbeats 8000000 in
set_option maxRecDepth 100000 in
theorem double_any (d : Nat) (HP : Kept (PartsC d)) (n : Nat) (s : ByteArray) (w : World) (mn : Int) (hn : n + d = 30) (hmn : mn = n) (hs : s.size ≤ 5000) :
    Calls Tryd.prog 27 #[.string s, .int .i64 mn] w (PEnd w (double (parts d) (toL s))) := by
  subst hmn
  have HN := Kept.mk hn
  have HS := Kept.mk hs
  have n1 : (n : Int) ≤ 30 := by omega
  clear hn
  by_cases he : s = ⟨#[]⟩
  · subst he
    have HBr : Kept (double (parts d) (toL ⟨#[]⟩) = .ok [txt true []]) := ⟨rfl⟩
    go_enter Tryd.func27, Tryd.ntmps27
    go_wp2_with fail
    go_ret2
    rw [HBr.out]
    exact ⟨some ⟨w.heap.size, 0, none⟩, 1, rfl, ⟨.at w.heap.size 0 1 1 (pvs 0 true [] [] [] (.slice none 0 0)) [txt true []] rfl (Nat.le_refl _) (Nat.le_refl _) (by simp) (fun j u hu => by
      rw [Nat.zero_add, cell_of_row _ _ j _ _ (0, 0) (heap_alloc_new w _)]
      show (pvs 0 true [] [] [] (.slice none 0 0)).toArray[j]? = some u
      simpa using hu) (by
      have := Cs.cons (P := Nw w.heap.size) (w := w.alloc (.cells #[.int .i64 0, .bool true, .string ⟨#[]⟩, .string ⟨#[]⟩, .string ⟨#[]⟩, .slice none 0 0] 39)) 0 true [] [] [] [] (.slice none 0 0) [] [] rfl (.nil _ _ (fun _ => rfl)) .nil
      rwa [List.append_nil] at this)⟩, (Below.refl _ _).alloc (Nat.le_refl _) _⟩
  · have hse : (s.toList == ([] : List UInt8)) = false := not_empty (by
      rcases Nat.eq_zero_or_pos s.size with h | h
      · exact absurd (empty_of h) he
      · exact h)
    have HDb : Kept (double (parts d) (toL s) = doubleOn (parts d) (toL s) []) := ⟨by
      unfold double
      rw [if_neg (show ¬ toL s = [] from fun e => he (toL_inj e))]; rfl⟩
    clear he
    go_enter Tryd.func27, Tryd.ntmps27
    go_wp2_with fail
    go_loopw [0, 6] (fun sv v wr => ∃ (x : ByteArray) (acc : List Pt), sv = .string x ∧ Kept (LV (Nw w.heap.size) wr v acc) ∧ Kept (doubleOn (parts d) (toL s) [] = doubleOn (parts d) (toL x) acc ∧ wt acc + 2 * x.size ≤ 10000) ∧ Kept (Below w.heap.size w wr)) (fun sv _ _ => szOf sv)
    case atStart => exact ⟨s, [], rfl, ⟨.nil _ _ (fun _ => rfl)⟩, ⟨⟨rfl, by rw [wt_nil]; omega⟩⟩, ⟨Below.refl _ _⟩⟩
    case round =>
      clear hse
      obtain ⟨x, acc, rfl, HA, HD, HB⟩ := hrel
      obtain ⟨Aa, ka, hva⟩ := HA.out.slice
      subst hva
      generalize hal : acc.length = al at *
      have HAl := Kept.mk hal
      clear hal
      have hx5 : x.size ≤ 5000 := by have := HD.out.2; omega
      by_cases hx0 : 0 < x.size
      · have zx : (0 : Int) < x.size := by omega
        have z1 : (1 : Int) ≤ x.size := by omega
        have HX0 := Kept.mk (cons_at hx0)
        obtain ⟨x1, hx1⟩ : ∃ x1, x1 = bs [x[0]'hx0] := ⟨_, rfl⟩
        have hsl1 : ∀ W : World, (Instr.slice 9 (.string x) none (some (.int .i64 1)) none).run Tryd.prog W = .ok (.string x1) W := fun W => by
          rw [run_slice_string_to_if W 9 x .i64 _ Tryd.underlying9, if_pos ⟨by omega, by omega⟩, hx1]
          exact congrArg (fun b => Result.ok (Value.string b) W) (one_ext x 0 hx0)
        by_cases h36 : x[0]'hx0 = 36
        · have y36 : (((x[0]'hx0).toNat : Nat) : Int) = 36 := nat_byte (k := 36) h36 (by omega)
          have hst : step2 (parts d) (toL x) = dollar (parts d) true (toL x) := by rw [HX0.out, step2, if_pos h36]
          have HBx := Kept.mk (BoxM.begin wr #[.int .i64 0, .bool true, .string x1, .string ⟨#[]⟩, .string ⟨#[]⟩, .slice none 0 0])
          have HPc := Kept.mk (dollar_any d HP n x true (wr.alloc (.cells #[.int .i64 0, .bool true, .string x1, .string ⟨#[]⟩, .string ⟨#[]⟩, .slice none 0 0] 39)) n HN.out rfl hx5 hx0 h36)
          unfold DEnd at HPc
          have T2 : Kept True := ⟨trivial⟩
          cases hp : dollar (parts d) true (toL x) with
          | error ce =>
            rw [hp] at HPc hst
            have HBr : Kept (double (parts d) (toL s) = .error ce) := ⟨by
              rw [HDb.out, HD.out.1]
              rw [HX0.out] at hst ⊢
              exact doubleOn_bad hst⟩
            clear hp hst h36 hx1
            go_wp2_with (first
              | (go_at_call 25
                 have := T2
                 refine HPc.out.mono ?_
                 rintro e w5 ⟨kk, q5, t5, n5, o5, k5, rfl, hce, hb5⟩
                 have HCe := Kept.mk hce
                 have HB5 := Kept.mk (HBx.out.below hb5)
                 clear T2 this hb5)
              | (refine wpList_store_row rfl 39 _ _ rfl _ _ rfl rfl 39 _ HB5.out.r (by kernel_rfl) rfl (by simp [Value.oneCell']) ?_
                 have HB6 := Kept.mk (HB5.out.row #[.int .i64 kk, .bool q5, .string t5, .string n5, .string o5, .slice none 0 0])))
            go_ret2
            rw [HBr.out]
            exact ⟨rfl, HCe.out, HB.out.trans (HB6.out.bl.mono HB.out.size)⟩
          | ok xp =>
            obtain ⟨p, k⟩ := xp
            rw [hp] at HPc hst
            have hk := step2_le hst
            rw [toL_length] at hk
            have hwp := step2_wt (parts_wt d) hst
            have hwa := wt_add acc p
            have HN2 : Kept (doubleOn (parts d) (toL s) [] = doubleOn (parts d) (toL (x.extract k x.size)) (add acc p) ∧ wt (add acc p) + 2 * (x.extract k x.size).size ≤ 10000) := ⟨⟨by
              rw [HD.out.1, toL_rest]
              rw [HX0.out] at hst ⊢
              exact doubleOn_go hst, by rw [size_rest]; have := HD.out.2; omega⟩⟩
            have hms : (x.extract k x.size).size < x.size := by rw [size_rest]; omega
            have hsl := fun W => str_from hk.2 (by omega) (s := x) W
            have HSp : Kept (wt acc + wtP p ≤ 100000) := ⟨by have := HD.out.2; omega⟩
            generalize x.extract k x.size = x2 at *
            clear hp hst h36 hx1 hwp hwa
            go_wp2_with (first
              | (go_at_call 25
                 have := T2
                 refine HPc.out.mono ?_
                 rintro e w5 ⟨kk, q5, t5, n5, o5, wd, A5, k5, hp5, rfl, hl5, hb5⟩
                 dsimp only at hp5
                 rw [hp5] at HSp HN2
                 have HSa := HSp
                 have HB5 := Kept.mk (HBx.out.below hb5)
                 have HL5 := Kept.mk (hl5.out)
                 generalize wd.length = wl at *
                 have HB6 := Kept.mk (HB5.out.row #[.int .i64 kk, .bool q5, .string (bs t5), .string (bs n5), .string (bs o5), .slice A5 wl k5])
                 have HL6 := Kept.mk ((HL5.out.ahead (w := wr) (by simp) #[.int .i64 kk, .bool q5, .string (bs t5), .string (bs n5), .string (bs o5), .slice A5 wl k5]).nw (n := w.heap.size) (by have := HB.out.size; simp; omega))
                 clear T2 this hb5 hl5 HSp hp5)
              | (refine wpList_store_row rfl 39 _ _ rfl _ _ rfl rfl 39 _ HB5.out.r (by kernel_rfl) rfl (by simp [Value.oneCell']) ?_)
              | (refine wpList_load_row rfl 39 _ rfl wr.heap.size rfl 39 #[.int .i64 kk, .bool q5, .string (bs t5), .string (bs n5), .string (bs o5), .slice A5 wl k5] (0, 0) _ HB6.out.r Tryd.underlying39 rfl (by kernel_rfl) ?_))
            go_at_call 26
            refine (add_any acc _ kk q5 t5 n5 o5 wd rfl (.slice A5 wl k5) Aa al ka _ (HA.out.keep HB6.out.bl) HSa.out rfl HL6.out).mono ?_
            rintro e w8 ⟨v8, rfl, h8, hb8⟩
            have HA8 : Kept (LV (Nw w.heap.size) w8 v8 (add acc (.mk kk q5 t5 n5 o5 wd))) := ⟨h8.out.up2 (Nat.le_refl _) (by have h1 := HB6.out.bl.size; have h2 := HB.out.size; omega)⟩
            have HB8 : Kept (Below w.heap.size w w8) := ⟨HB.out.trans ((HB6.out.bl.trans (hb8.mono HB6.out.bl.size)).mono HB.out.size)⟩
            clear h8 hb8
            go_wp2_with fail
            go_roundw
            case rel => exact ⟨_, _, rfl, HA8, HN2, HB8⟩
            case measure => simp only [szOf]; omega

        · have y36 : ((((x[0]'hx0).toNat : Nat) : Int) == 36) = false := nat_nbyte (k := 36) h36 (by omega)
          obtain ⟨eb, heb⟩ : ∃ eb, eb = decide (x[0]'hx0 = 92 ∧ (((toL x).drop 1).head? = some 36 ∨ ((toL x).drop 1).head? = some 96 ∨ ((toL x).drop 1).head? = some 34 ∨ ((toL x).drop 1).head? = some 92)) := ⟨_, rfl⟩
          have HEb := Kept.mk heb
          have hst : step2 (parts d) (toL x) = if eb then .ok (txt true (((toL x).drop 1).take 1), 2) else .ok (txt true [x[0]'hx0], 1) := by
            have h0 := HX0.out
            rw [heb]
            generalize (toL x).drop 1 = r at h0 ⊢
            rw [h0, step2, if_neg h36]
            simp only [decide_eq_true_eq]
          have HSt := Kept.mk hst
          have HX1 := Kept.mk hx1
          clear heb hst h36 hx1
          go_upto_region 8 with fail
          have HBx := Kept.mk (BoxM.begin wr #[.int .i64 0, .bool true, .string x1, .string ⟨#[]⟩, .string ⟨#[]⟩, .slice none 0 0])
          generalize wr.alloc (.cells #[.int .i64 0, .bool true, .string x1, .string ⟨#[]⟩, .string ⟨#[]⟩, .slice none 0 0] 39) = w2 at HBx ⊢
          go_cut [57] (fun t wy => t = .bool eb ∧ Kept (wy = w2))
          case first =>
            by_cases h92 : x[0]'hx0 = 92
            · have y92 : (((x[0]'hx0).toNat : Nat) : Int) = 92 := nat_byte (k := 92) h92 (by omega)
              by_cases hl2 : 1 < x.size
              · have zl : (1 : Int) < x.size := by omega
                have h1 : ((toL x).drop 1).head? = some (x[1]'hl2) := head_at hl2
                have HR : Kept (eb = decide (x[1]'hl2 = 36 ∨ x[1]'hl2 = 96 ∨ x[1]'hl2 = 34 ∨ x[1]'hl2 = 92)) := ⟨by rw [HEb.out, h1]; simp [h92]⟩
                clear h1 h92
                by_cases g36 : x[1]'hl2 = 36
                · have v36 : (((x[1]'hl2).toNat : Nat) : Int) = 36 := nat_byte (k := 36) g36 (by omega)
                  have HR2 : Kept (eb = true) := ⟨by rw [HR.out]; exact decide_eq_true (.inl g36)⟩
                  clear g36
                  go_wp2_with fail
                  go_meet
                  exact ⟨by rw [HR2.out], ⟨rfl⟩⟩
                have v36 : ((((x[1]'hl2).toNat : Nat) : Int) == 36) = false := nat_nbyte (k := 36) g36 (by omega)
                by_cases g96 : x[1]'hl2 = 96
                · have v96 : (((x[1]'hl2).toNat : Nat) : Int) = 96 := nat_byte (k := 96) g96 (by omega)
                  have HR2 : Kept (eb = true) := ⟨by rw [HR.out]; exact decide_eq_true (.inr (.inl g96))⟩
                  clear g36 g96
                  go_wp2_with fail
                  go_meet
                  exact ⟨by rw [HR2.out], ⟨rfl⟩⟩
                have v96 : ((((x[1]'hl2).toNat : Nat) : Int) == 96) = false := nat_nbyte (k := 96) g96 (by omega)
                by_cases g34 : x[1]'hl2 = 34
                · have v34 : (((x[1]'hl2).toNat : Nat) : Int) = 34 := nat_byte (k := 34) g34 (by omega)
                  have HR2 : Kept (eb = true) := ⟨by rw [HR.out]; exact decide_eq_true (.inr (.inr (.inl g34)))⟩
                  clear g36 g96 g34
                  go_wp2_with fail
                  go_meet
                  exact ⟨by rw [HR2.out], ⟨rfl⟩⟩
                have v34 : ((((x[1]'hl2).toNat : Nat) : Int) == 34) = false := nat_nbyte (k := 34) g34 (by omega)
                by_cases g92 : x[1]'hl2 = 92
                · have v92 : (((x[1]'hl2).toNat : Nat) : Int) = 92 := nat_byte (k := 92) g92 (by omega)
                  have HR2 : Kept (eb = true) := ⟨by rw [HR.out]; exact decide_eq_true (.inr (.inr (.inr g92)))⟩
                  clear g36 g96 g34 g92
                  go_wp2_with fail
                  go_meet
                  exact ⟨by rw [HR2.out], ⟨rfl⟩⟩
                · have v92 : ((((x[1]'hl2).toNat : Nat) : Int) == 92) = false := nat_nbyte (k := 92) g92 (by omega)
                  have HR2 : Kept (eb = false) := ⟨by rw [HR.out]; exact decide_eq_false (by rintro (h | h | h | h) <;> contradiction)⟩
                  clear g36 g96 g34 g92
                  go_wp2_with fail
                  go_meet
                  exact ⟨by rw [HR2.out], ⟨rfl⟩⟩
              · have zl : ¬ (1 : Int) < x.size := by omega
                have HR2 : Kept (eb = false) := ⟨by rw [HEb.out, List.drop_eq_nil_of_le (by rw [toL_length]; omega)]; simp⟩
                clear h92
                go_wp2_with fail
                go_meet
                exact ⟨by rw [HR2.out], ⟨rfl⟩⟩
            · have y92 : ((((x[0]'hx0).toNat : Nat) : Int) == 92) = false := nat_nbyte (k := 92) h92 (by omega)
              have HR2 : Kept (eb = false) := ⟨by rw [HEb.out]; simp [h92]⟩
              clear h92
              go_wp2_with fail
              go_meet
              exact ⟨by rw [HR2.out], ⟨rfl⟩⟩
          case rest =>
            obtain ⟨rfl, hw⟩ := hcut
            have hw := hw.out
            subst hw
            cases eb with
            | true =>
              have hst := HSt.out
              rw [if_pos rfl] at hst
              have hk := step2_le hst
              rw [toL_length] at hk
              have hwp := step2_wt (parts_wt d) hst
              have hwa := wt_add acc (txt true (((toL x).drop 1).take 1))
              have HN2 : Kept (doubleOn (parts d) (toL s) [] = doubleOn (parts d) (toL (x.extract 2 x.size)) (add acc (txt true (((toL x).drop 1).take 1))) ∧ wt (add acc (txt true (((toL x).drop 1).take 1))) + 2 * (x.extract 2 x.size).size ≤ 10000) := ⟨⟨by
                rw [HD.out.1, toL_rest]
                rw [HX0.out] at hst ⊢
                exact doubleOn_go hst, by rw [size_rest]; have := HD.out.2; omega⟩⟩
              have hms : (x.extract 2 x.size).size < x.size := by rw [size_rest]; omega
              have hsl := fun W => str_from hk.2 (by omega) (s := x) W
              have HSa : Kept (wt acc + wtP (txt true (((toL x).drop 1).take 1)) ≤ 100000) := ⟨by have := HD.out.2; omega⟩

              obtain ⟨Y, hY⟩ : ∃ Y, Y = x.extract 1 2 := ⟨_, rfl⟩
              have HYl : Kept (bs (((toL x).drop 1).take 1) = Y) := ⟨by rw [← bs_toL Y, hY, toL_extract]⟩
              have hsl2 : ∀ W : World, (Instr.slice 9 (.string x) (some (.int .i64 1)) (some (.int .i64 2)) none).run Tryd.prog W = .ok (.string Y) W := fun W => by
                rw [run_slice_string_if W 9 x .i64 .i64 _ _ Tryd.underlying9, if_pos ⟨by omega, by omega⟩, if_pos ⟨by omega, by omega⟩, hY]; rfl
              generalize ((toL x).drop 1).take 1 = t5 at *
              rw [← HYl.out] at hsl2
              clear hsl
              clear hst HSt HEb hY hwp hwa hsl1
              have HB6 := Kept.mk (HBx.out.row #[.int .i64 0, .bool true, .string (bs t5), .string ⟨#[]⟩, .string ⟨#[]⟩, .slice none 0 0])
              have HNw : Kept (LV (Nw w.heap.size) (wc.setRow wr.heap.size #[.int .i64 0, .bool true, .string (bs t5), .string ⟨#[]⟩, .string ⟨#[]⟩, .slice none 0 0]) (.slice none 0 0) []) := ⟨.nil _ _ (fun _ => rfl)⟩
              go_wp2_with (first
                | (refine wpList_store_row rfl 39 _ _ rfl _ _ rfl rfl 39 _ HBx.out.r (by kernel_rfl) rfl (by simp [Value.oneCell']) ?_)
                | (refine wpList_load_row rfl 39 _ rfl wr.heap.size rfl 39 #[.int .i64 0, .bool true, .string (bs t5), .string ⟨#[]⟩, .string ⟨#[]⟩, .slice none 0 0] (0, 0) _ HB6.out.r Tryd.underlying39 rfl (by kernel_rfl) ?_))
              go_at_call 26
              refine (add_any acc _ 0 true t5 [] [] [] rfl (.slice none 0 0) Aa al ka _ (HA.out.keep HB6.out.bl) HSa.out rfl HNw.out).mono ?_
              rintro e w8 ⟨v8, rfl, h8, hb8⟩
              have HA8 : Kept (LV (Nw w.heap.size) w8 v8 (add acc (.mk 0 true t5 [] [] []))) := ⟨h8.out.up2 (Nat.le_refl _) (by have h1 := HB6.out.bl.size; have h2 := HB.out.size; omega)⟩
              have HB8 : Kept (Below w.heap.size w w8) := ⟨HB.out.trans ((HB6.out.bl.trans (hb8.mono HB6.out.bl.size)).mono HB.out.size)⟩
              clear h8 hb8
              go_wp2_with fail

              go_roundw
              case rel => exact ⟨_, _, rfl, HA8, HN2, HB8⟩
              case measure => simp only [szOf]; omega

            | false =>
              have hst := HSt.out
              rw [if_neg (by decide)] at hst
              have hk := step2_le hst
              rw [toL_length] at hk
              have hwp := step2_wt (parts_wt d) hst
              have hwa := wt_add acc (txt true [x[0]'hx0])
              have HN2 : Kept (doubleOn (parts d) (toL s) [] = doubleOn (parts d) (toL (x.extract 1 x.size)) (add acc (txt true [x[0]'hx0])) ∧ wt (add acc (txt true [x[0]'hx0])) + 2 * (x.extract 1 x.size).size ≤ 10000) := ⟨⟨by
                rw [HD.out.1, toL_rest]
                rw [HX0.out] at hst ⊢
                exact doubleOn_go hst, by rw [size_rest]; have := HD.out.2; omega⟩⟩
              have hms : (x.extract 1 x.size).size < x.size := by rw [size_rest]; omega
              have hsl := fun W => str_from hk.2 (by omega) (s := x) W
              have HSa : Kept (wt acc + wtP (txt true [x[0]'hx0]) ≤ 100000) := ⟨by have := HD.out.2; omega⟩

              generalize [x[0]'hx0] = t5 at *
              have hx1 := HX1.out
              subst hx1
              clear hsl
              clear hst HSt HEb hwp hwa hsl1
              have HNw : Kept (LV (Nw w.heap.size) wc (.slice none 0 0) []) := ⟨.nil _ _ (fun _ => rfl)⟩
              go_wp2_with (first
                | (refine wpList_load_row rfl 39 _ rfl wr.heap.size rfl 39 #[.int .i64 0, .bool true, .string (bs t5), .string ⟨#[]⟩, .string ⟨#[]⟩, .slice none 0 0] (0, 0) _ HBx.out.r Tryd.underlying39 rfl (by kernel_rfl) ?_))
              go_at_call 26
              refine (add_any acc _ 0 true t5 [] [] [] rfl (.slice none 0 0) Aa al ka _ (HA.out.keep HBx.out.bl) HSa.out rfl HNw.out).mono ?_
              rintro e w8 ⟨v8, rfl, h8, hb8⟩
              have HA8 : Kept (LV (Nw w.heap.size) w8 v8 (add acc (.mk 0 true t5 [] [] []))) := ⟨h8.out.up2 (Nat.le_refl _) (by have h1 := HBx.out.bl.size; have h2 := HB.out.size; omega)⟩
              have HB8 : Kept (Below w.heap.size w w8) := ⟨HB.out.trans ((HBx.out.bl.trans (hb8.mono HBx.out.bl.size)).mono HB.out.size)⟩
              clear h8 hb8
              go_wp2_with fail

              go_roundw
              case rel => exact ⟨_, _, rfl, HA8, HN2, HB8⟩
              case measure => simp only [szOf]; omega

      · have zx : ¬ (0 : Int) < x.size := by omega
        have HBr : Kept (double (parts d) (toL s) = .ok acc) := ⟨by
          rw [HDb.out, HD.out.1, show toL x = [] from List.eq_nil_of_length_eq_zero (by rw [toL_length]; omega), doubleOn_nil]⟩
        clear hx0
        go_wp2_with fail
        go_ret2
        rw [HBr.out]
        exact ⟨Aa, ka, by rw [HAl.out]; rfl, ⟨by rw [HAl.out]; exact HA.out⟩, HB.out⟩
end Wx
end Go.Proofs.YtphgnjjblpmijaaDoor
