/-
  Parts of the proof, merged.
-/
import Derived.Test.YtlggpefmojacoaaGreatDoorLa21
import Derived.Test.YtlggpefmojacoaaGreatDoorLa26
import Derived.Test.YtlggpefmojacoaaGreatDoorLa44
namespace Go.Proofs.YtlggpefmojacoaaGreatDoor
section
open Go.RowKit Tx
namespace Ar
open Va (Vr VS getD Sorted)
structure EM (w : World) (vb : Nat) (l : List Vr) : Prop where
 row : ∃ A k, w.heap[vb]? = some (.cells #[.slice A l.length k] 57 (0, 0)) ∧ VS w A k l
 kb : ∃ B, B ≤ vb ∧ KB B w
 ok : Ok l
section
variable {w w' : World} {vb : Nat} {l : List Vr}
theorem EM.lt (h : EM w vb l) : vb < w.heap.size := by
 obtain ⟨A, k, hr, _⟩ := h.row
 exact (Array.getElem?_eq_some_iff.1 hr).1
theorem EM.below (h : EM w vb l) (hb : Below w.heap.size w w') : EM w' vb l := by
 obtain ⟨A, k, hr, hv⟩ := h.row
 obtain ⟨B, hB, hk⟩ := h.kb
 exact ⟨⟨A, k, (hb.block vb h.lt).trans hr, hv.below hb⟩, ⟨B, hB, hk.below (hb.mono hk.le)⟩, h.ok⟩
theorem EM.kt (h : EM w vb l) : KT w := by
 obtain ⟨B, _, hk⟩ := h.kb
 exact hk.kt
theorem EM.set {m : List Vr} {A : Option Addr} {n k : Nat} (h : EM w vb l) (hm : Ok m) (hv : VS w A k m) (hn : n = m.length) : EM (w.setCell ⟨vb, 0, none⟩ (.slice A n k)) vb m := by
 subst hn
 obtain ⟨A0, k0, hr, _⟩ := h.row
 obtain ⟨B, hB, hk⟩ := h.kb
 have ho : Only (· = vb) w (w.setCell ⟨vb, 0, none⟩ (.slice A m.length k)) := (Only.refl _ _).setCell _ _ (fun _ => rfl)
 refine ⟨⟨A, k, by have := heap_setCell_same w vb 0 _ _ (.slice A m.length k) hr; simpa using this, hv.cap, hv.nil, fun hl => ?_⟩, ⟨B, hB, hk.only ho hB⟩, hm⟩
 obtain ⟨g, off, h1, h3, h4⟩ := hv.mem hl
 have hg : g ≠ vb := by
   rintro rfl
   obtain ⟨v, t, rfl⟩ := List.exists_cons_of_ne_nil hl
   have h5 := h4 0 (.string v.name) rfl
   rw [cell_of_row w g (off + 0) _ _ _ hr] at h5
   match off, h5 with
   | 0, h5 => cases h5
   | o + 1, h5 => cases h5
 exact ⟨g, off, h1, by simpa [World.setCell] using h3, fun j u hu => (World.cell?_of_block (w := w) (a := ⟨g, off + j, none⟩) (Below.heap_setCell _ _ _ _ hg)).trans (h4 j u hu)⟩
end
def GE (o : Option Int) (w : World) (e : Ending) (w' : World) : Prop := match o with
 | some n => e = .returned (.int .i64 n) ∧ Kept (Below w.heap.size w w')
 | none => e = .panicked (pan 130) ∧ Kept (Below w.heap.size w w')
theorem var_cells (v : Vr) : (#[Value.string v.name, .string v.value, .bool v.ex, .bool v.ro] : Array Value).all (·.oneCell') = true := by simp [Value.oneCell']
set_option maxHeartbeats 4000000 in
set_option maxRecDepth 100000 in
theorem get_any (w : World) (vb : Nat) (l : List Vr) (x : ByteArray) (h : EM w vb l) (hl : l.length ≤ 100000) :
   Calls Tryz.prog 38 #[.pointer (some ⟨vb, 0, none⟩), .string x] w (GE (valV (toL (getD l x).value)) w) := by
 obtain ⟨A, k, hr, hv⟩ := h.row
 have c0 := cell_of_row w vb 0 _ _ _ hr
 have HV := Kept.mk hv
 have HL := Kept.mk hl
 have HK := Kept.mk h.kt
 have HS := Kept.mk h.ok.sorted
 obtain ⟨v, hvv⟩ : ∃ v, getD l x = v := ⟨_, rfl⟩
 obtain ⟨b, hbb⟩ : ∃ b, Va.found l x = b := ⟨_, rfl⟩
 have HD := Kept.mk hvv
 have HF := Kept.mk hbb
 have HSm : Kept (v.value.size ≤ 281474976710656) := ⟨by rw [← hvv]; exact getD_small h.ok x⟩
 rw [hvv]
 obtain ⟨o, ho⟩ : ∃ o, o = valV (toL v.value) := ⟨_, rfl⟩
 have HVal : Kept (∀ W, KT W → Calls Tryz.prog 52 #[.string v.value] W fun e w' => ValE o e ∧ Below W.heap.size W w') := ⟨fun W hW => by rw [ho]; exact val_any v.value HSm.out W hW⟩
 rw [← ho]
 obtain ⟨n, hn⟩ : ∃ n, n = l.length := ⟨_, rfl⟩
 rw [← hn] at c0
 have HN := Kept.mk hn.symm
 have HLn : Kept (n ≤ 100000) := ⟨hn ▸ hl⟩
 clear h hr hv hl hvv hbb ho hn
 cases o with
 | some q =>
   go_enter Tryz.func38, Tryz.ntmps38
   go_wp2_with (first
     | (go_at_call 51; refine (Va.get_any l A n k x _ HV.out HN.out HLn.out HS.out v b HD.out HF.out).mono ?_; rintro e w1 ⟨rfl, hb⟩; have HB1 := Kept.mk hb; clear hb)
     | (have := HB1; refine wpList_store_row rfl 31 _ _ rfl _ #[.string v.name, .string v.value, .bool v.ex, .bool v.ro] rfl rfl 31 _ (heap_alloc_new _ _) (by kernel_rfl) rfl (var_cells v) ?_
        have HB2 : Kept (Below w.heap.size w ((w1.alloc (.cells #[.string ⟨#[]⟩, .string ⟨#[]⟩, .bool false, .bool false] 31)).setRow w1.heap.size #[.string v.name, .string v.value, .bool v.ex, .bool v.ro])) := ⟨⟨HB1.out.os, HB1.out.tape, HB1.out.output, by rw [setRow_size]; have := HB1.out.size; simp; omega, fun k hk => (setRow_other _ _ k _ (by have := HB1.out.size; omega)).trans ((Below.heap_alloc _ _ _ (by have := HB1.out.size; omega)).trans (HB1.out.block k hk))⟩⟩
        have c1 := cell_of_row _ w1.heap.size 1 _ _ _ (setRow_heap (w1.alloc (.cells #[.string ⟨#[]⟩, .string ⟨#[]⟩, .bool false, .bool false] 31)) w1.heap.size _ #[.string v.name, .string v.value, .bool v.ex, .bool v.ro] _ _ (heap_alloc_new _ _))
        clear HB1)
     | (go_at_call 52; refine (HVal.out _ (HK.out.below HB2.out)).mono ?_; rintro e w3 ⟨he, hb⟩; obtain rfl := he; have HB3 := Kept.mk (HB2.out.trans (hb.mono HB2.out.size)); clear hb)
     | (go_at_call 44; refine (check_any _ true 130).mono ?_; rintro e w2 ⟨rfl, rfl⟩))
   go_ret
   exact ⟨rfl, HB3⟩
 | none =>
   go_enter Tryz.func38, Tryz.ntmps38
   go_wp2_with (first
     | (go_at_call 51; refine (Va.get_any l A n k x _ HV.out HN.out HLn.out HS.out v b HD.out HF.out).mono ?_; rintro e w1 ⟨rfl, hb⟩; have HB1 := Kept.mk hb; clear hb)
     | (have := HB1; refine wpList_store_row rfl 31 _ _ rfl _ #[.string v.name, .string v.value, .bool v.ex, .bool v.ro] rfl rfl 31 _ (heap_alloc_new _ _) (by kernel_rfl) rfl (var_cells v) ?_
        have HB2 : Kept (Below w.heap.size w ((w1.alloc (.cells #[.string ⟨#[]⟩, .string ⟨#[]⟩, .bool false, .bool false] 31)).setRow w1.heap.size #[.string v.name, .string v.value, .bool v.ex, .bool v.ro])) := ⟨⟨HB1.out.os, HB1.out.tape, HB1.out.output, by rw [setRow_size]; have := HB1.out.size; simp; omega, fun k hk => (setRow_other _ _ k _ (by have := HB1.out.size; omega)).trans ((Below.heap_alloc _ _ _ (by have := HB1.out.size; omega)).trans (HB1.out.block k hk))⟩⟩
        have c1 := cell_of_row _ w1.heap.size 1 _ _ _ (setRow_heap (w1.alloc (.cells #[.string ⟨#[]⟩, .string ⟨#[]⟩, .bool false, .bool false] 31)) w1.heap.size _ #[.string v.name, .string v.value, .bool v.ex, .bool v.ro] _ _ (heap_alloc_new _ _))
        clear HB1)
     | (go_at_call 52; refine (HVal.out _ (HK.out.below HB2.out)).mono ?_; rintro e w3 ⟨⟨m, he⟩, hb⟩; obtain rfl := he; have HB3 := Kept.mk (HB2.out.trans (hb.mono HB2.out.size)); clear hb)
     | (go_at_call 44; refine (check_any _ false 130).mono ?_; rintro e w2 ⟨rfl, rfl⟩))
   first | exact ⟨rfl, rfl, HB3⟩ | exact ⟨rfl, HB3⟩
end Ar
end
end Go.Proofs.YtlggpefmojacoaaGreatDoor
