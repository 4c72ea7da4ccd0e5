/-
  The program's new splitter, and its Fields.
-/
import Derived.Test.YtjnhhkiabdbenaaDoorFp5
import Derived.Test.YtjnhhkiabdbenaaDoorFs
namespace Go.Proofs.YtjnhhkiabdbenaaDoor
open Go.RowKit Tx
namespace Fd

def zc : Array Value := Array.replicate 256 (.bool false) ++ #[.slice none 0 0, .slice none 0 0, .bool false, .bool false]
theorem zero_build (W : World) : (zeroValue 45).run Tryd.prog W = .ok (.agg zc) W := by kernel_rfl
theorem zc_bytes (i : Nat) (hi : i < 256) : zc[i]? = some (.bool false) := by
  unfold zc
  rw [Array.getElem?_append_left (by simpa using hi), Array.getElem?_replicate, if_pos hi]
theorem SM.start (w : World) : SM w.heap.size w.heap.size [] (.slice none 0 0) (.slice none 0 0) false [] [] false (w.alloc (.cells zc 45)) :=
  ⟨⟨zc, heap_alloc_new w _, by unfold zc; simp, fun i hi => by rw [zc_bytes i hi]; rfl, by kernel_rfl, by kernel_rfl, by kernel_rfl, by kernel_rfl⟩, World.ownsRow_nil _ _ _ _, World.ownsRow_nil _ _ _ _, Nat.le_refl _⟩
/-- A byte more that parts. -/
theorem SM.mark {B b : Nat} {f : List UInt8} {u v : Value} {sp has : Bool} {out : List (List UInt8)} {cur : List UInt8} {w : World} (h : SM B b f u v sp out cur has w) (c : UInt8) : SM B b (f ++ [c]) u v sp out cur has (w.setCell ⟨b, c.toNat, none⟩ (.bool true)) := by
  obtain ⟨cs, h1, h2, h3, h4, h5, h6, h7⟩ := h.row
  have hc := c.toNat_lt
  refine ⟨⟨cs.setIfInBounds c.toNat (.bool true), heap_setCell_same w b _ _ _ _ h1, by simpa using h2, fun j hj => ?_, ?_, ?_, ?_, ?_⟩, ?_, ?_, h.hb⟩
  · rw [Array.getElem?_setIfInBounds]
    by_cases e : c.toNat = j
    · rw [if_pos e, if_pos (by omega)]
      have : UInt8.ofNat j = c := by rw [← e, UInt8.ofNat_toNat]
      rw [this]; simp
    · rw [if_neg e, h3 j hj]
      have : UInt8.ofNat j ≠ c := fun k => e (by rw [← k]; exact UInt8.toNat_ofNat_of_lt' hj)
      simp [this]
  · rw [Array.getElem?_setIfInBounds, if_neg (by omega)]; exact h4
  · rw [Array.getElem?_setIfInBounds, if_neg (by omega)]; exact h5
  · rw [Array.getElem?_setIfInBounds, if_neg (by omega)]; exact h6
  · rw [Array.getElem?_setIfInBounds, if_neg (by omega)]; exact h7
  · exact Pm.own_by h.outs fun g cs hg => Below.heap_setCell _ _ _ g (Pm.type_ne hg h1 (by decide))
  · exact Pm.own_by h.bytes fun g cs hg => Below.heap_setCell _ _ _ g (Pm.type_ne hg h1 (by decide))
set_option maxHeartbeats 2000000 in
set_option maxRecDepth 100000 in
theorem new_any (s : ByteArray) (w : World) (hs : s.size ≤ 2000) :
    Calls Tryd.prog 15 #[.string s] w fun e w' => e = .returned (.pointer (some ⟨w.heap.size, 0, none⟩)) ∧ Kept (SX w.heap.size w.heap.size (toL s) St.init w') ∧ Kept (Below w.heap.size w w') := by
  have hz := zero_build
  have H0 := Kept.mk (SM.start w)
  have HB0 : Kept (Below w.heap.size w (w.alloc (.cells zc 45))) := ⟨(Below.refl _ _).alloc (Nat.le_refl _) _⟩
  have HZ := Kept.mk hs
  obtain ⟨b, hb⟩ : ∃ b, b = w.heap.size := ⟨_, rfl⟩
  rw [← hb] at H0 HB0
  have Hb := Kept.mk hb
  rw [← hb]
  generalize hzc : zc = Z at *
  clear hzc hs hb
  go_enter Tryd.func15, Tryd.ntmps15
  go_wp2_with fail
  rw [← Hb.out]
  generalize World.alloc _ _ = W at *
  go_loopw [9] (fun i wr => ∃ j : Nat, j ≤ s.size ∧ i = .int .i64 (j : Int) ∧ Kept (SM b b ((toL s).take j) (.slice none 0 0) (.slice none 0 0) false [] [] false wr) ∧ Kept (Below b w wr)) (fun i _ => s.size - (intOf i).toNat)
  case atStart => exact ⟨0, by omega, rfl, H0, HB0⟩
  case round =>
    obtain ⟨j, hj, rfl, HM, HB⟩ := hrel
    by_cases hlt : j < s.size
    · have hl2 : (j : Int) < (s.size : Int) := by omega
      have hj5 : (j : Int) ≤ 2000 := by have := HZ.out; omega
      have hj0 : (0 : Int) ≤ (j : Int) := by omega
      have c0 := HM.out.c (i := (s[j]'hlt).toNat) (by have := (s[j]'hlt).toNat_lt; omega)
      have f0 := HM.out.fz (s[j]'hlt).toNat
      have c0d : wr.drew.cell? ⟨b, (s[j]'hlt).toNat, none⟩ = _ := c0
      have f0d : wr.drew.frozen? ⟨b, (s[j]'hlt).toNat, none⟩ = false := f0
      have h256 : ((s[j]'hlt).toNat : Int) < 256 := by have := (s[j]'hlt).toNat_lt; omega
      have HM2 : Kept (SM b b ((toL s).take (j + 1)) (.slice none 0 0) (.slice none 0 0) false [] [] false (wr.setCell ⟨b, (s[j]'hlt).toNat, none⟩ (.bool true))) := ⟨by
        rw [Pm.take_on hlt]; exact HM.out.mark _⟩
      have HB2 : Kept (Below b w (wr.setCell ⟨b, (s[j]'hlt).toNat, none⟩ (.bool true))) := ⟨HB.out.setCell (p := ⟨b, (s[j]'hlt).toNat, none⟩) (Nat.le_refl _) _⟩
      clear HM HB
      go_wp2_with fail
      go_region
      all_goals
        go_wp2_with fail
        go_roundw
        case rel => exact ⟨j + 1, by omega, by go_num, ⟨HM2.out.drew⟩, ⟨HB2.out.drew⟩⟩
        case measure => simp [intOf]; omega
    · obtain rfl : j = s.size := by omega
      have HT : Kept (SM b b (toL s) (.slice none 0 0) (.slice none 0 0) false [] [] false wr) := ⟨by
        have := HM.out
        rwa [List.take_of_length_le (by rw [toL_length]; exact Nat.le_refl _)] at this⟩
      clear HM hlt
      go_wp2_with fail
      go_ret
      exact ⟨rfl, ⟨_, _, _, HT.out, fun _ => ⟨rfl, rfl⟩⟩, HB⟩
end Fd
end Go.Proofs.YtjnhhkiabdbenaaDoor
