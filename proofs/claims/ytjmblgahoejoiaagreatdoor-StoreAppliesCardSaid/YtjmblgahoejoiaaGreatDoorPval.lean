/-
  The program's Value and Entry.
-/
import Derived.Test.YtjmblgahoejoiaaGreatDoorEnt
import Derived.Test.YtjmblgahoejoiaaGreatDoorEnc
import Derived.WalkKit
import Derived.BigCall
import Derived.Deep.RegionHeld3
import Derived.Deep.RegionLaw
import Derived.Deep.RegionWith
import Derived.StillTail
import Derived.StillTailTactics
import Derived.Laws.Tables
namespace Go.Proofs.YtjmblgahoejoiaaGreatDoor
open Go.RowKit Tx
namespace St

theorem str_emp' (s : ByteArray) : (s.toList == ([] : List UInt8)) = decide (s = emp) := by
  have := beq_str s emp
  have e : emp.toList = [] := by decide +kernel
  rwa [e] at this
theorem itoa_any (n : Nat) (w : World) (hn : n ≤ 9223372036854775807) (hK : Tup.Kit w) :
    Calls Tryz.prog 46 #[.int .i64 n] w fun e w' => ∃ t : ByteArray, e = .returned (.string t) ∧ Below w.heap.size w w' ∧ Kept (t = bs (Net.dig n)) := by
  refine (Tryz.strconv_Itoa n (by omega) (by omega) w hK.tab).mono ?_
  rintro e w' ⟨rfl, k, os, rfl⟩
  refine ⟨_, rfl, ?_, ⟨?_⟩⟩
  · exact Lib.below_grow _ _ (Nat.le_refl _) _ _
  · rw [Net.itoa_dig]; rfl

theorem three_at (w : World) (a b : Value) (c : Value) (t : TypeId) : (w.alloc (.cells #[a, b, c] t)).cell? ⟨w.heap.size, 0, none⟩ = some a ∧ (w.alloc (.cells #[a, b, c] t)).cell? ⟨w.heap.size, 1, none⟩ = some b ∧ (w.alloc (.cells #[a, b, c] t)).cell? ⟨w.heap.size, 2, none⟩ = some c :=
  ⟨cell_of_row _ _ _ _ _ (0, 0) (heap_alloc_new w _), cell_of_row _ _ _ _ _ (0, 0) (heap_alloc_new w _), cell_of_row _ _ _ _ _ (0, 0) (heap_alloc_new w _)⟩

theorem three_small {t1 t2 d : ByteArray} {k m : Nat} (h1 : t1 = bs (Net.dig k)) (h2 : t2 = bs (Net.dig m)) (hk : k ≤ 9223372036854775807) (hm : m ≤ 9223372036854775807) (hd : d.size ≤ 1000000) : ∀ s ∈ [t1, t2, d], s.size ≤ 1000000 := by
  intro s hs
  simp only [List.mem_cons, List.not_mem_nil, or_false] at hs
  have e1 := Net.dig_length k 18 (by omega)
  have e2 := Net.dig_length m 18 (by omega)
  rcases hs with rfl | rfl | rfl
  · rw [h1, bs_size]; omega
  · rw [h2, bs_size]; omega
  · exact hd

set_option maxRecDepth 100000 in
theorem value_any (k m : Nat) (d : ByteArray) (w : World) (hk : k ≤ 9223372036854775807) (hm : m ≤ 9223372036854775807) (hd : d.size ≤ 1000000) (hK : Tup.Kit w) :
    Calls Tryz.prog 23 #[.agg #[.int .i64 k, .int .i64 m, .string d]] w fun e w' => ∃ t : ByteArray, e = .returned (.string t) ∧ Below w.heap.size w w' ∧ Kept (toL t = valL ⟨k, m, d⟩) := by
  by_cases h0 : k = 0
  · subst h0
    go_enter Tryz.func23, Tryz.ntmps23
    go_wp2
    go_ret
    exact ⟨_, rfl, (Below.refl _ _).alloc (Nat.le_refl _) _, ⟨rfl⟩⟩
  · have hk0 : ((k : Int) == 0) = false := by rw [beq_eq_false_iff_ne]; omega
    have HV : Kept (∀ t : ByteArray, t = Tup.bs (Net.enc ([bs (Net.dig k), bs (Net.dig m), d].map Tup.toL)) → toL t = valL ⟨k, m, d⟩) := ⟨fun t ht => by
      unfold valL
      rw [if_neg (by simp only; omega)]
      subst ht
      show toL (bs _) = _
      rw [toL_bs]
      show Net.enc [toL (bs _), toL (bs _), toL d] = _
      rw [toL_bs, toL_bs]
      rfl⟩
    obtain ⟨c0, c1, c2⟩ := three_at w (.int .i64 k) (.int .i64 m) (.string d) 37
    have hB : Below w.heap.size w (w.alloc (.cells #[.int .i64 k, .int .i64 m, .string d] 37)) := (Below.refl _ _).alloc (Nat.le_refl _) _
    have HB := Kept.mk hB
    have HK := Kept.mk (Tup.KitB.below hK.toB hB)
    have hlt : w.heap.size < (w.alloc (.cells #[.int .i64 k, .int .i64 m, .string d] 37)).heap.size := by simp
    have T1 : Kept True := ⟨trivial⟩
    clear h0 hK hB
    go_enter Tryz.func23, Tryz.ntmps23
    go_wp2
    generalize hW0 : w.alloc (.cells #[.int .i64 k, .int .i64 m, .string d] 37) = w0 at *
    clear hW0
    go_region_held3 (fun w' => w'.cell? ⟨w.heap.size, 0, none⟩ = some (.int .i64 k) ∧ w'.cell? ⟨w.heap.size, 1, none⟩ = some (.int .i64 m) ∧ w'.cell? ⟨w.heap.size, 2, none⟩ = some (.string d))
      (first
        | exact ⟨c0, c1, c2⟩
        | exact ⟨d0, d1, d2⟩
        | exact ⟨e0, e1, e2⟩
        | exact ⟨f0, f1, f2⟩
        | exact ⟨(World.cell?_alloc_lt _ _ _ HL2.out).trans e0, (World.cell?_alloc_lt _ _ _ HL2.out).trans e1, (World.cell?_alloc_lt _ _ _ HL2.out).trans e2⟩)
      (first
        | (go_at_call 46
           have := T1
           refine (itoa_any k _ hk (HK.out.below (Below.refl _ _).drew).kit).mono ?_
           rintro e w1 ⟨t1, rfl, hb1, ht1⟩
           clear T1 this
           have d0 := (hb1.cell (p := ⟨w.heap.size, 0, none⟩) hlt).trans c0
           have d1 := (hb1.cell (p := ⟨w.heap.size, 1, none⟩) hlt).trans c1
           have d2 := (hb1.cell (p := ⟨w.heap.size, 2, none⟩) hlt).trans c2
           have hb1' := (HB.out.drew).trans (hb1.mono (Nat.le_of_lt hlt))
           have HB1 := Kept.mk hb1'
           have HK1 := Kept.mk (HK.out.below ((Below.refl _ _).drew.trans (hb1.mono (Nat.le_of_lt hlt))))
           have hlt1 : w.heap.size < w1.heap.size := Nat.lt_of_lt_of_le hlt hb1.size
           clear hb1 hb1')
        | (go_at_call 46
           refine (itoa_any m _ hm (HK1.out.below (Below.refl _ _)).kit).mono ?_
           rintro e w2 ⟨t2, rfl, hb2, ht2⟩
           have e0 := (hb2.cell (p := ⟨w.heap.size, 0, none⟩) hlt1).trans d0
           have e1 := (hb2.cell (p := ⟨w.heap.size, 1, none⟩) hlt1).trans d1
           have e2 := (hb2.cell (p := ⟨w.heap.size, 2, none⟩) hlt1).trans d2
           have HB2 := Kept.mk (HB1.out.trans (hb2.mono (Nat.le_of_lt hlt1)))
           have HK2 := Kept.mk (HK1.out.below (hb2.mono (Nat.le_of_lt hlt1)))
           have HL2 : Kept (w.heap.size < w2.heap.size) := ⟨Nat.lt_of_lt_of_le hlt1 hb2.size⟩
           clear hb2)
        | (go_at_call 45
           refine (Tup.encode_any [t1, t2, d] (some ⟨w2.heap.size, 0, none⟩) 3 3 _ (HK2.out.below ((Below.refl _ _).alloc (Nat.le_of_lt HL2.out) _)).kit (Tup.Rd.of_at (Own.At.fresh w2 _ _ [t1, t2, d] rfl)) rfl (by omega) (three_small ht1.out ht2.out hk hm hd)).mono ?_
           rintro e w3 ⟨t3, rfl, hb3, ht3⟩
           have HB3 := Kept.mk ((HB2.out.alloc (Nat.le_of_lt HL2.out) _).trans (hb3.mono (by rw [World.size_alloc]; have := HL2.out; omega)))
           have HT3 : Kept (toL t3 = valL ⟨k, m, d⟩) := ⟨HV.out t3 (by rw [ht3.out, ht1.out, ht2.out])⟩
           have f0 := (hb3.cell (p := ⟨w.heap.size, 0, none⟩) (by rw [World.size_alloc]; have := HL2.out; show w.heap.size < _; omega)).trans ((World.cell?_alloc_lt _ _ _ HL2.out).trans e0)
           have f1 := (hb3.cell (p := ⟨w.heap.size, 1, none⟩) (by rw [World.size_alloc]; have := HL2.out; show w.heap.size < _; omega)).trans ((World.cell?_alloc_lt _ _ _ HL2.out).trans e1)
           have f2 := (hb3.cell (p := ⟨w.heap.size, 2, none⟩) (by rw [World.size_alloc]; have := HL2.out; show w.heap.size < _; omega)).trans ((World.cell?_alloc_lt _ _ _ HL2.out).trans e2)
           clear hb3))
    go_wp2
    go_ret
    exact ⟨_, rfl, HB3.out, HT3⟩

structure BoxIn (w W : World) (cs : Array Value) : Prop where
  box : W.heap[w.heap.size]? = some (.cells cs 37 (0, 0))
  below : Below w.heap.size w W
theorem BoxIn.again {w W : World} {cs : Array Value} (h : BoxIn w W cs) {X : World → Prop} (hX : ∀ W', BoxIn w W' cs → X W') : X W.drew := hX _ ⟨h.box, h.below.drew⟩
theorem BoxIn.on {w W W' : World} {cs : Array Value} (h : BoxIn w W cs) (hb : Below W.heap.size W W') : BoxIn w W' cs :=
  ⟨(hb.block _ (Array.getElem?_eq_some_iff.1 h.box).1).trans h.box, h.below.trans (hb.mono h.below.size)⟩
theorem BoxIn.set {w W : World} {cs : Array Value} (h : BoxIn w W cs) (cells : Array Value) : BoxIn w (W.setRow w.heap.size cells) cells :=
  ⟨setRow_heap W _ _ cells _ _ h.box, ⟨h.below.os, h.below.tape, h.below.output, by rw [setRow_size]; exact h.below.size, fun k hk => (setRow_other W _ k cells (by omega)).trans (h.below.block k hk)⟩⟩

set_option maxRecDepth 100000 in
theorem isIn_any (k m : Int) (d : ByteArray) (w : World) :
    Calls Tryz.prog 44 #[.agg #[.int .i64 k, .int .i64 m, .string d]] w fun e w' => e = .returned (.bool (decide (valid ⟨k, m, d⟩))) ∧ Below w.heap.size w w' := by
  have hE := str_emp' d
  by_cases h1 : m < 0
  · have hD : decide (valid ⟨k, m, d⟩) = false := decide_eq_false (fun h => by have := h.2.1; simp only at this; omega)
    rw [hD]
    go_enter Tryz.func44, Tryz.ntmps44
    go_wp2
    go_ret
    exact ⟨rfl, (Below.refl _ _).alloc (Nat.le_refl _) _⟩
  by_cases h2 : 7 < m
  · have hD : decide (valid ⟨k, m, d⟩) = false := decide_eq_false (fun h => by have := h.2.2; simp only at this; omega)
    rw [hD]
    go_enter Tryz.func44, Tryz.ntmps44
    go_wp2
    go_ret
    exact ⟨rfl, (Below.refl _ _).alloc (Nat.le_refl _) _⟩
  by_cases k1 : k = 1
  · have hD : decide (valid ⟨k, m, d⟩) = true := decide_eq_true ⟨.inl k1, by simp only; omega, by simp only; omega⟩
    rw [hD]
    subst k1
    go_enter Tryz.func44, Tryz.ntmps44
    go_wp2
    go_ret
    exact ⟨rfl, (Below.refl _ _).alloc (Nat.le_refl _) _⟩
  have b1 : (k == 1) = false := by simpa using k1
  by_cases k3 : k = 3
  · have hD : decide (valid ⟨k, m, d⟩) = true := decide_eq_true ⟨.inr (.inl k3), by simp only; omega, by simp only; omega⟩
    rw [hD]
    subst k3
    go_enter Tryz.func44, Tryz.ntmps44
    go_wp2
    go_ret
    exact ⟨rfl, (Below.refl _ _).alloc (Nat.le_refl _) _⟩
  have b3 : (k == 3) = false := by simpa using k3
  by_cases k2 : k = 2
  · by_cases hd : d = emp
    · have hD : decide (valid ⟨k, m, d⟩) = true := decide_eq_true ⟨.inr (.inr ⟨k2, hd⟩), by simp only; omega, by simp only; omega⟩
      rw [hD]
      rw [decide_eq_true hd] at hE
      subst k2
      clear hd
      go_enter Tryz.func44, Tryz.ntmps44
      go_wp2
      go_ret
      exact ⟨rfl, (Below.refl _ _).alloc (Nat.le_refl _) _⟩
    · have hD : decide (valid ⟨k, m, d⟩) = false := decide_eq_false (fun h => by rcases h.1 with h | h | ⟨_, h⟩ <;> first | exact k1 h | exact k3 h | exact hd h)
      rw [hD]
      rw [decide_eq_false hd] at hE
      subst k2
      clear hd
      go_enter Tryz.func44, Tryz.ntmps44
      go_wp2
      go_ret
      exact ⟨rfl, (Below.refl _ _).alloc (Nat.le_refl _) _⟩
  · have b2 : (k == 2) = false := by simpa using k2
    have hD : decide (valid ⟨k, m, d⟩) = false := decide_eq_false (fun h => by rcases h.1 with h | h | ⟨h, _⟩ <;> first | exact k1 h | exact k3 h | exact k2 h)
    rw [hD]
    go_enter Tryz.func44, Tryz.ntmps44
    go_wp2
    go_ret
    exact ⟨rfl, (Below.refl _ _).alloc (Nat.le_refl _) _⟩

/-- What is told between byte 7 and the end. -/
theorem cut_at (u : ByteArray) (w : World) (hs : u.size ≤ 4000000000) (hK : Tup.Kit w) :
    Calls Tryz.prog 64 #[.string u, .string ⟨#[58]⟩] w fun e w' => ∃ (a : ByteArray) (b : Bool), e = .returned (.tuple #[.string a, .string (bs (Lib.cut (toL u) [58]).2.1), .bool b]) ∧ Below w.heap.size w w' := by
  obtain ⟨m, hm⟩ := hK.max
  refine (Tryz.strings_Cut u ⟨#[58]⟩ m w (by omega) hm).mono ?_
  rintro e w' ⟨rfl, n, rfl⟩
  exact ⟨_, _, rfl, below_drewN (Below.refl _ _) n⟩
theorem trim_at (u : ByteArray) (w : World) (hs : u.size ≤ 4000000000) :
    Calls Tryz.prog 65 #[.string u, .string ⟨#[44]⟩] w fun e w' => e = .returned (.string (bs (Lib.trimSuffix (toL u) [44]))) ∧ w' = w :=
  Tryz.strings_TrimSuffix u ⟨#[44]⟩ w (by omega)
theorem cut_le (s : List UInt8) : (Lib.cut s [58]).2.1.length ≤ s.length := by
  rw [Net.cut_colon]
  split
  · show (List.drop _ _).length ≤ _
    rw [List.length_drop]; omega
  · simp

set_option maxRecDepth 100000 in
theorem likely_any (s : ByteArray) (w : World) (hs : s.size ≤ 4000000000) (hK : Tup.Kit w) :
    Calls Tryz.prog 43 #[.string s] w fun e w' => e = .returned (entV (likelyE (toL s))) ∧ Below w.heap.size w w' := by
  have hB : Below w.heap.size w (w.alloc (.cells #[.int .i64 0, .int .i64 0, .string ⟨#[]⟩] 37)) := (Below.refl _ _).alloc (Nat.le_refl _) _
  by_cases h8 : s.size < 8
  · have hl : ((s.size : Int)) < 8 := by omega
    have hE : Kept (likelyE (toL s) = zeroE) := ⟨by unfold likelyE; rw [if_pos (by rw [toL_length]; exact h8)]⟩
    go_enter Tryz.func43, Tryz.ntmps43
    go_wp2
    refine bodyPost_ret (results_cell_row rfl _ _ w.heap.size _ _ (0, 0) _ rfl (heap_alloc_new w _) Tryz.underlying37 rfl (by kernel_rfl)) rfl ?_
    exact ⟨by rw [hE.out]; rfl, (Below.refl _ _).alloc (Nat.le_refl _) _⟩
  · have hl : ¬ ((s.size : Int)) < 8 := by omega
    have hfrom : ∀ W : World, (Instr.slice 9 (.string s) (some (.int .i64 8)) none none).run Tryz.prog W = .ok (.string (s.extract 8 s.size)) W := fun W => by
      rw [run_slice_string_from_if W 9 s .i64 _ Tryz.underlying9, if_pos ⟨by omega, by omega⟩]; rfl
    have HK := Kept.mk (Tup.KitB.below hK.toB hB)
    have HB := Kept.mk hB
    clear hK hB
    go_enter Tryz.func43, Tryz.ntmps43
    go_wp2_with (first
      | (go_at_call 64
         refine (cut_at _ _ (by rw [← toL_length, toL_extract, List.length_take, List.length_drop]; omega) HK.out.kit).mono ?_
         rintro e w1 ⟨a, b, rfl, hb1⟩
         have HB1 := Kept.mk hb1
         clear hb1))
    have HX := Kept.mk (BoxIn.on ⟨heap_alloc_new w _, HB.out⟩ HB1.out)
    refine wp_region_still_tail 11 (by kernel_rfl) (by kernel_rfl) ?_
    simp only [List.take_succ_cons, List.take_zero, List.drop_succ_cons, List.drop_zero]
    have z2 : (2 : Int) < s.size := by omega
    have z6 : (6 : Int) < s.size := by omega
    have HE : Kept (Value.agg #[.int .i64 (IntKind.i64.wrap (IntKind.i64.wrap ((s[2]'(by omega)).toNat : Int) - 48)), .int .i64 (IntKind.i64.wrap (IntKind.i64.wrap ((s[6]'(by omega)).toNat : Int) - 48)), .string (bs (Lib.trimSuffix (toL (bs (Lib.cut (toL (s.extract 8 s.size)) [58]).2.1)) [44]))] = entV (likelyE (toL s))) := ⟨by
      have b2 := (s[2]'(by omega)).toNat_lt
      have b6 := (s[6]'(by omega)).toNat_lt
      rw [show IntKind.i64.wrap ((s[2]'(by omega)).toNat : Int) = ((s[2]'(by omega)).toNat : Int) from IntWalk.i64_in _ (by omega), show IntKind.i64.wrap ((s[6]'(by omega)).toNat : Int) = ((s[6]'(by omega)).toNat : Int) from IntWalk.i64_in _ (by omega),
        show IntKind.i64.wrap (((s[2]'(by omega)).toNat : Int) - 48) = ((s[2]'(by omega)).toNat : Int) - 48 from IntWalk.i64_in _ (by omega), show IntKind.i64.wrap (((s[6]'(by omega)).toNat : Int) - 48) = ((s[6]'(by omega)).toNat : Int) - 48 from IntWalk.i64_in _ (by omega)]
      have e1 : toL (s.extract 8 s.size) = (toL s).drop 8 := by rw [toL_extract, List.take_of_length_le (by rw [List.length_drop, toL_length]; omega)]
      have g2 : (toL s)[2]? = some (s[2]'(by omega)) := by rw [List.getElem?_eq_getElem (by rw [toL_length]; omega), at_toL]
      have g6 : (toL s)[6]? = some (s[6]'(by omega)) := by rw [List.getElem?_eq_getElem (by rw [toL_length]; omega), at_toL]
      unfold likelyE entV
      rw [if_neg (by rw [toL_length]; omega), e1, toL_bs, g2, g6]
      rfl⟩
    repeat (first | still_step | still_call (trim_at _ _ (by rw [bs_size]; have h1 := cut_le (toL (s.extract 8 s.size)); have h2 := toL_length (s.extract 8 s.size); rw [ByteArray.size_extract] at h2; omega)))
    refine wpStill_nil ?_
    refine HX.out.again (X := fun W => wpList _ _ _ _ _ W) ?_
    intro W2 hX2
    have HX2 := Kept.mk hX2
    clear hX2 HX hfrom
    rw [HE.out]
    clear HE
    obtain ⟨k0, m0, d0, hEq⟩ : ∃ k0 m0 d0, likelyE (toL s) = ⟨k0, m0, d0⟩ := ⟨_, _, _, rfl⟩
    have HEq := Kept.mk hEq
    rw [hEq]
    clear hEq
    unfold entV
    go_wp2_with (refine wpList_store_row rfl 37 _ _ rfl _ _ rfl rfl _ _ HX2.out.box (by kernel_rfl) rfl (by simp [Value.oneCell']) ?_)
    have HX3 := HX2.out.set #[.int .i64 k0, .int .i64 m0, .string d0]
    refine bodyPost_ret (results_cell_row rfl _ _ w.heap.size _ _ (0, 0) _ rfl HX3.box Tryz.underlying37 rfl (by kernel_rfl)) rfl ?_
    exact ⟨by rw [HEq.out]; rfl, HX3.below⟩

/-- What Entry answers. -/
def entRes (s : ByteArray) : Ent × Int := match entOf (toL s) with
  | some e => (e, 0)
  | none => (zeroE, 20)
theorem entRes_emp : entRes emp = (zeroE, 0) := by
  unfold entRes
  have : toL emp = [] := rfl
  rw [this, entOf_nil]

end St
end Go.Proofs.YtjmblgahoejoiaaGreatDoor
