/-
  A strings.Builder that a call has made itself: its copy check, and WriteString.
-/
import Derived.Test.YtmkpkmkhnphogaaGreatDoorGcm
import Derived.Test.YtmkpkmkhnphogaaGreatDoorShelf2M
import Derived.Lib.FrozenHead
import Derived.WalkKit
import Derived.BigCall
import Derived.Laws.Small
import Derived.Laws.Pointers
import Derived.Test.YtmkpkmkhnphogaaGreatDoorGjm
import Derived.Test.YtmkpkmkhnphogaaGreatDoorGtup
import Derived.Test.YtmkpkmkhnphogaaGreatDoorGsha
import Derived.Lib.AtoiTie
import Derived.Laws.Strings2
import Derived.Laws.Strings3
import Derived.Laws.Slices
import Derived.Test.YtmkpkmkhnphogaaGreatDoorGjr
import Derived.Test.YtmkpkmkhnphogaaGreatDoorMeanM
import Derived.Test.YtmkpkmkhnphogaaGreatDoorGdr
namespace Go.Proofs.YtmkpkmkhnphogaaGreatDoor
open Go.RowKit Tx
namespace Bl

def BT : TypeId := 111
abbrev At := Lib.BuilderAtF 111 5
abbrev Is := Lib.IsBuilderF 111 5
theorem size_builder : (Tryz.prog.info? 111).map (·.size) = some 2 := by kernel_rfl
theorem lies_builder : liesAt Tryz.prog Tryz.prog.depth 111 (2 / Tryz.prog.cellsOf 111) 0 111 1 = true := by kernel_rfl
theorem info_byte : (Tryz.prog.info? 5).map (fun i => (i.zero, i.size, i.bytes)) = some (some (.int .u8 0), 1, 1) := by kernel_rfl

set_option maxRecDepth 100000 in
theorem copyCheck_used (b : Nat) (w : World) (h0 : w.cell? ⟨b, 0, none⟩ = some (.pointer (some ⟨b, 0, none⟩))) :
    Calls Tryz.prog 77 #[.pointer (some ⟨b, 0, none⟩)] w fun e w' => e = .returned (.tuple #[]) ∧ w' = w := by
  obtain ⟨j, hj, _⟩ := Option.map_eq_some_iff.1 size_builder
  have hn : ∀ W : World, (binOp .neq 109 (.pointer (some ⟨b, 0, none⟩)) (.pointer (some ⟨b, 0, none⟩))).run Tryz.prog W = .ok (.bool false) W := fun W => Lib.run_neq_ptr_same W _ Tryz.underlying109 hj
  have he : ∀ W : World, (binOp .eql 109 (.pointer (some ⟨b, 0, none⟩)) (.pointer none)).run Tryz.prog W = .ok (.bool false) W := fun W => by
    rw [run_eql_pointer_nil W _ _ Tryz.underlying109]; rfl
  clear hj
  go_enter Tryz.func77, Tryz.ntmps77
  go_wp2
  go_end0
  exact ⟨rfl, rfl⟩

set_option maxRecDepth 100000 in
theorem copyCheck_fresh (b : Nat) (w : World) (h0 : w.cell? ⟨b, 0, none⟩ = some (.pointer none)) (hsh : w.shape? b = some (111, 2)) (hfz : w.frozen? ⟨b, 0, none⟩ = false) :
    Calls Tryz.prog 77 #[.pointer (some ⟨b, 0, none⟩)] w fun e w' => e = .returned (.tuple #[]) ∧ w' = w.setCell ⟨b, 0, none⟩ (.pointer (some ⟨b, 0, none⟩)) := by
  obtain ⟨j, hj, hjs⟩ := Option.map_eq_some_iff.1 size_builder
  have he : ∀ W : World, (binOp .eql 109 (.pointer none) (.pointer none)).run Tryz.prog W = .ok (.bool true) W := fun W => by
    rw [run_eql_pointer_nil W _ _ Tryz.underlying109]; rfl
  have h1 : (convert 109 143 (.pointer (some ⟨b, 0, none⟩))).run Tryz.prog w = .ok (.pointer (some ⟨b, 0, none⟩)) w := Lib.run_to_unsafe w ⟨b, 0, none⟩ Tryz.underlying109 Tryz.underlying143 hj (by rw [hjs]; decide) hsh (Nat.zero_lt_succ 1)
  have h2 : (callFunc 98 #[.pointer (some ⟨b, 0, none⟩)]).run Tryz.prog w = .ok (.value (.pointer (some ⟨b, 0, none⟩))) w := by
    rw [run_callFunc_extern Tryz.func98 (by kernel_rfl) (by kernel_rfl) (by kernel_rfl) (e := Extern.AbiNoEscape.same) (by kernel_rfl), Lib.run_noEscape]; rfl
  have h3 : (convert 143 109 (.pointer (some ⟨b, 0, none⟩))).run Tryz.prog w = .ok (.pointer (some ⟨b, 0, none⟩)) w := Lib.run_from_unsafe w ⟨b, 0, none⟩ Tryz.underlying143 Tryz.underlying109 hj hsh lies_builder
  clear hj hjs
  go_enter Tryz.func77, Tryz.ntmps77
  go_wp2
  go_end0
  exact ⟨rfl, rfl⟩

theorem copyCheck_any (B b : Nat) (bs : List Value) (w : World) (h : Is B b bs w) :
    Calls Tryz.prog 77 #[.pointer (some ⟨b, 0, none⟩)] w fun e w' => e = .returned (.tuple #[]) ∧ (At B b (.pointer (some ⟨b, 0, none⟩)) bs w' ∧ Below B w w') := by
  rcases h with h | h
  · refine (copyCheck_fresh b w h.cell0 h.shape h.frozen0).mono ?_
    rintro e w' ⟨rfl, rfl⟩
    exact ⟨rfl, h.used _, (Below.refl B w).setCell (p := ⟨b, 0, none⟩) h.1 _⟩
  · refine (copyCheck_used b w h.cell0).mono ?_
    rintro e w' ⟨rfl, rfl⟩
    exact ⟨rfl, h, Below.refl B _⟩

set_option maxHeartbeats 2000000 in
set_option maxRecDepth 100000 in
theorem writeString_any (B b : Nat) (bs : List Value) (s : ByteArray) (w : World) (h : Is B b bs w) (hlen : bs.length + s.size ≤ 140737488355328) (hBw : B ≤ w.heap.size) :
    Calls Tryz.prog 63 #[.pointer (some ⟨b, 0, none⟩), .string s] w fun e w' => e = .returned (.tuple #[.int .i64 s.size, .nilIface]) ∧ (Is B b (bs ++ Lib.strCells s) w' ∧ Below B w w') := by
  obtain ⟨i0, hi, hz0, hz1, hz2⟩ := info_parts info_byte
  go_enter Tryz.func63, Tryz.ntmps63
  go_wp2_with (go_at_call 77; refine (copyCheck_any B b bs _ h).mono ?_)
  rintro e w1 ⟨rfl, h1, hb1⟩
  obtain ⟨hB, v, hbk, hown, hne⟩ := h1
  have c0 : w1.cell? ⟨b, 0, none⟩ = some (.pointer (some ⟨b, 0, none⟩)) := by rw [Lib.cell_of_heap hbk]; rfl
  have c1 : w1.cell? ⟨b, 1, none⟩ = some v := by rw [Lib.cell_of_heap hbk]; rfl
  go_wp2_with (at_builtin; refine Lib.wpList_append_own_stringF _ rfl _ _ 51 9 rfl B 5 i0 Tryz.underlying51 Tryz.underlying9 hi hz0 hz1 hz2 _ _ _ rfl hown s rfl ?c3 ?c4 ?c5 ?_)
  case c3 => unfold maxLen; omega
  case c4 => omega
  case c5 => have := hb1.size; omega
  intro v' w2 hown' hgrow _
  have hlt : b < w1.heap.size := by
    rcases Nat.lt_or_ge b w1.heap.size with h' | h'
    · exact h'
    · simp [Array.getElem?_eq_none h'] at hbk
  have hb2 : w2.heap[b]? = some (.cells #[.pointer (some ⟨b, 0, none⟩), v] 111 (0, 0)) := by
    rw [hgrow.block b hlt (fun e => hne e.symm)]
    exact hbk
  have d0 : w2.cell? ⟨b, 0, none⟩ = some (.pointer (some ⟨b, 0, none⟩)) := by rw [Lib.cell_of_heap hb2]; rfl
  have d1 : w2.cell? ⟨b, 1, none⟩ = some v := by rw [Lib.cell_of_heap hb2]; rfl
  have f1 : w2.frozen? ⟨b, 1, none⟩ = false := Lib.frozen_of_heap hb2 1
  obtain ⟨ao, n', cap, rfl⟩ : ∃ ao n' cap, v' = .slice ao n' cap := by
    rcases hown'.2 with ⟨hv, _⟩ | ⟨g, cap, cur, fz, hv, _⟩
    · exact ⟨_, _, _, hv⟩
    · exact ⟨_, _, _, hv⟩
  go_wp2
  go_ret2
  refine ⟨rfl, .inr ?_, ?_⟩
  · exact Lib.BuilderAtF.put (T := 111) (e := 5) hB hb2 (bs' := bs ++ Lib.strCells s) (by simpa [Lib.strCells_length] using hown') (by decide)
  · exact (hb1.grown hgrow (by have := hb1.size; omega) (fun k hk => (hown.lt k hk).1)).setCell (p := ⟨b, 1, none⟩) hB _
end Bl
end Go.Proofs.YtmkpkmkhnphogaaGreatDoor

/-
  The program's journal: how many sectors a text needs, what stands behind a head's mark, the length that a head tells.
-/
namespace Go.Proofs.YtmkpkmkhnphogaaGreatDoor
open Go.RowKit Tx Dv
namespace Pj

/-- What the journal's calls ask of the world: the library's variables, the table of constants. -/
structure JK (w : World) : Prop where
  kit : Tup.Kit w
  tab : Sha.Tab w
  rng : ∃ tp p, w.var? Tryz.prog "strconv.ErrRange" = some #[.iface tp p]
theorem JK.below {w w' : World} (h : JK w) (hb : Below w.heap.size w w') : JK w' := by
  obtain ⟨h1, h2, tp, p, h3⟩ := h
  exact ⟨h1.below hb, h2.below hb, tp, p, Tup.var_below hb h3⟩

set_option maxRecDepth 100000 in
theorem sectorsOf_any (n : Nat) (w : World) (hn : n ≤ 1000000000) :
    Calls Tryz.prog 42 #[.int .i64 n] w fun e w' => e = .returned (.int .i64 (1 + (Jn.count n : Nat))) ∧ w' = w := by
  have e : ((n : Int) + 63) / 64 = ((Jn.count n : Nat) : Int) := by unfold Jn.count; omega
  have E := Kept.mk e
  clear e
  have h0 : (0 : Int) ≤ n := by omega
  have h1 : (n : Int) ≤ 1000000000 := by omega
  have h2 : (n : Int) + 64 - 1 = (n : Int) + 63 := by omega
  go_enter Tryz.func42, Tryz.ntmps42
  go_wp2
  go_ret
  exact ⟨rfl, rfl⟩

/-- What stands behind the mark in the head of a record. -/
def rest (n : Nat) (s : List UInt8) : List UInt8 := Net.enc [Net.dig n, Net.dig s.length, Jn.sum16 s]
theorem head_rest (m : UInt8) (n : Nat) (s : List UInt8) : Jn.head m n s = m :: rest n s := rfl
theorem mark_rest (m : UInt8) (n : Nat) (s : List UInt8) : (⟨#[m]⟩ : ByteArray) ++ bs (rest n s) = bs (Jn.head m n s) := by
  show bs [m] ++ bs _ = _
  rw [bs_append]
  rfl
theorem rest_size {n : Nat} {s : List UInt8} (hn : n < 1000000000) (hs : s.length ≤ 100000) : (bs (rest n s)).size ≤ 63 := by
  have := Jn.head_length 49 n s hn hs
  rw [head_rest, List.length_cons] at this
  rw [bs_size]
  omega

theorem sum_length (l : List UInt8) : (Sha.sum l).length = 64 := by unfold Sha.sum Sha.inHex; simp [Sha.St.list, Sha.hex8]
theorem rest_bytes (n : Nat) (s t1 t2 t3 t4 : ByteArray) (h1 : t1 = Tup.bs (Net.dig n)) (h2 : t2 = Tup.bs (Net.dig s.size)) (h3 : t3 = ⟨(Sha.sum s.data.toList).toArray⟩) (h4 : t4 = Tup.bs (Net.enc ([t1, t2, t3.extract 0 16].map Tup.toL))) : t4 = bs (rest n (toL s)) := by
  have e3 : Tup.toL (t3.extract 0 16) = Jn.sum16 (toL s) := by
    rw [Tup.toL_to, h3]
    unfold Jn.sum16 Tup.toL toL
    simp
  have e4 : [t1, t2, t3.extract 0 16].map Tup.toL = [Net.dig n, Net.dig (toL s).length, Jn.sum16 (toL s)] := by
    simp only [List.map_cons, List.map_nil, e3, h1, h2, Tup.toL_bs, toL_length]
  rw [h4, e4]
  rfl
theorem rest_parts {n : Nat} {s t1 t2 t3 : ByteArray} (hn : n ≤ 1000000) (hs : s.size ≤ 100000) (h1 : t1 = Tup.bs (Net.dig n)) (h2 : t2 = Tup.bs (Net.dig s.size)) : ∀ x ∈ [t1, t2, t3.extract 0 16], x.size ≤ 1000000 := by
  intro x hx
  have l1 := Jn.dig_le n 6 (by omega)
  have l2 := Jn.dig_le s.size 6 (by omega)
  simp only [List.mem_cons, List.not_mem_nil, or_false] at hx
  rcases hx with rfl | rfl | rfl
  · rw [h1, Tup.bs_size]; omega
  · rw [h2, Tup.bs_size]; omega
  · rw [ByteArray.size_extract]; omega
theorem itoa_any (k : Nat) (w : World) (hk : k ≤ 1000000000) (hK : Tup.Kit w) :
    Calls Tryz.prog 66 #[.int .i64 k] w fun e w' => ∃ x : ByteArray, e = .returned (.string x) ∧ Below w.heap.size w w' ∧ Kept (x = Tup.bs (Net.dig k)) := by
  refine (Tryz.strconv_Itoa k (by omega) (by omega) w hK.tab).mono ?_
  rintro e w' ⟨rfl, m, os, rfl⟩
  exact ⟨_, rfl, Lib.below_grow _ _ (Nat.le_refl _) _ _, ⟨by rw [Net.itoa_dig]; rfl⟩⟩

set_option maxHeartbeats 1000000 in
set_option maxRecDepth 100000 in
theorem rest_any (n : Nat) (s : ByteArray) (w : World) (hn : n ≤ 1000000) (hs : s.size ≤ 100000) (hK : JK w) :
    Calls Tryz.prog 48 #[.int .i64 n, .string s] w fun e w' => ∃ t : ByteArray, e = .returned (.string t) ∧ Below w.heap.size w w' ∧ Kept (t = bs (rest n (toL s))) := by
  have HN := Kept.mk hn
  have HS := Kept.mk hs
  have HK := Kept.mk hK
  have T1 : Kept True := ⟨trivial⟩
  have T2 : Kept True := ⟨trivial⟩
  have hsz : s.size ≤ 9223372036854775807 := by omega
  clear hn hs hK
  go_enter Tryz.func48, Tryz.ntmps48
  go_wp2_with (first
    | (go_at_call 66
       have := T1
       refine (itoa_any n _ (by have := HN.out; omega) HK.out.kit).mono ?_
       rintro e w1 ⟨t1, rfl, hb1, ht1⟩
       have HB1 := Kept.mk hb1
       have HT1 := Kept.mk ht1.out
       clear hb1 ht1 T1 this)
    | (go_at_call 66
       have := T2
       refine (itoa_any s.size _ (by have := HS.out; omega) (HK.out.kit.below HB1.out)).mono ?_
       rintro e w2 ⟨t2, rfl, hb2, ht2⟩
       have HB2 := Kept.mk (HB1.out.trans (hb2.mono HB1.out.size))
       have HT2 := Kept.mk ht2.out
       clear hb2 ht2 T2 this)
    | (go_at_call 67
       refine (Sha.sum_any s _ (by have := HS.out; unfold maxLen; omega) (HK.out.tab.below HB2.out)).mono ?_
       rintro e w3 ⟨rfl, hb3⟩
       obtain ⟨t3, ht3⟩ : ∃ t3 : ByteArray, t3 = ⟨(Sha.sum s.data.toList).toArray⟩ := ⟨_, rfl⟩
       rw [← ht3]
       have HB3 := Kept.mk (HB2.out.trans (hb3.mono HB2.out.size))
       have hsl : ∀ W : World, (Instr.slice 9 (.string t3) none (some (.int .i64 16)) none).run Tryz.prog W = .ok (.string (t3.extract 0 16)) W := fun W => by
         rw [run_slice_string_to_if W 9 t3 .i64 _ Tryz.underlying9, if_pos ⟨by omega, by rw [ht3]; show (16 : Int) ≤ ((Sha.sum s.data.toList).toArray.size : Nat); rw [List.size_toArray, sum_length]; decide⟩]
         rfl
       have HT3 := Kept.mk ht3
       clear hb3 ht3)
    | (go_at_call 65
       refine (Tup.encode_any [t1, t2, t3.extract 0 16] _ 3 3 _ (HK.out.kit.below (HB3.out.trans (((Below.refl _ _).alloc (Nat.le_refl _) _).mono HB3.out.size))) (Tup.Rd.of_at (Own.At.fresh w3 _ _ _ rfl)) rfl (by decide) (rest_parts HN.out HS.out HT1.out HT2.out)).mono ?_
       rintro e w4 ⟨t4, rfl, hb4, ht4⟩
       have HB4 : Kept (Below w.heap.size w w4) := ⟨HB3.out.trans ((((Below.refl _ _).alloc (Nat.le_refl _) _).trans (hb4.mono (by simp))).mono HB3.out.size)⟩
       have HT4 := Kept.mk (rest_bytes n s t1 t2 t3 t4 HT1.out HT2.out HT3.out ht4.out)
       clear hb4 ht4))
  go_ret
  exact ⟨_, rfl, HB4.out, HT4⟩

/-! ### The length that a head tells -/
def numOf (y : List UInt8) : Option Nat := match Lib.atoiAll y with
  | .ok v => if 0 ≤ v ∧ v ≤ 100000 then some v.toNat else none
  | _ => none
/-- .. of the text behind the mark. -/
def lenOf (h : List UInt8) : Option Nat := if h = [] then none else match Net.dec (h.drop 1) with
  | some [_, y, _] => numOf y
  | _ => none
theorem numOf_dig (n : Nat) (h : n ≤ 100000) : numOf (Net.dig n) = some n := by
  have hl := Jn.dig_le n 5 (by omega)
  unfold numOf
  rw [Lib.atoiAll_short _ (by omega), Net.atoi_dig]
  simp only [Lib.NumEnd.ofOption]
  rw [if_pos ⟨by omega, by omega⟩]
  simp
theorem numOf_le {y : List UInt8} {m : Nat} (h : numOf y = some m) : m ≤ 100000 := by
  unfold numOf at h
  split at h
  · split at h
    · injection h with h; omega
    · cases h
  · cases h

theorem decode_some (s : ByteArray) (l : List ByteArray) (w : World) (hs : s.size ≤ 4000000000) (hK : Tup.Kit w) (h : Net.dec (Tup.toL s) = some (l.map Tup.toL)) :
    Calls Tryz.prog 60 #[.string s] w fun e w' => ∃ A k, e = .returned (.tuple #[.slice A l.length k, .int .i64 0]) ∧ Below w.heap.size w w' ∧ Kept (Tup.Rd w' A l) := by
  refine (Tup.decode_any s w hs hK).mono ?_
  rintro e w' ⟨v, k, rfl, hb, hd⟩
  rcases hd.out with ⟨h1, _⟩ | ⟨m, h1, he, rfl⟩
  · rw [h] at h1; cases h1
  · rw [h] at h1
    obtain rfl := Tup.map_toL_inj (Option.some.inj h1)
    obtain ⟨A, k, rfl, hr⟩ := Tup.Rd.of_es he
    exact ⟨A, k, rfl, hb, ⟨hr⟩⟩
theorem decode_none (s : ByteArray) (w : World) (hs : s.size ≤ 4000000000) (hK : Tup.Kit w) (h : Net.dec (Tup.toL s) = none) :
    Calls Tryz.prog 60 #[.string s] w fun e w' => e = .returned (.tuple #[.slice none 0 0, .int .i64 20]) ∧ Below w.heap.size w w' := by
  refine (Tup.decode_any s w hs hK).mono ?_
  rintro e w' ⟨v, k, rfl, hb, hd⟩
  rcases hd.out with ⟨h1, rfl, rfl⟩ | ⟨m, h1, he, rfl⟩
  · exact ⟨rfl, hb⟩
  · rw [h] at h1; cases h1
/-- Atoi of a text that tells no length. -/
theorem atoi_bad (y : ByteArray) (w : World) (hs : y.size ≤ 100000) (hK : JK w) (h : ∀ v, Lib.atoiAll y.data.toList ≠ .ok v) :
    Calls Tryz.prog 61 #[.string y] w fun e w' => ∃ (N : Nat) (v : Int), e = .returned (.tuple #[.int .i64 v, .iface 140 (.pointer (some ⟨N, 0, none⟩))]) ∧ Below w.heap.size w w' := by
  rcases ha : Lib.atoiAll y.data.toList with v | _ | _
  · exact absurd ha (h v)
  · obtain ⟨tp, p, hv⟩ := hK.kit.err
    refine (Tryz.strconv_Atoi_bad_var y (by omega) h (fun e => by rw [ha] at e; cases e) tp p w hv).mono ?_
    rintro e w' ⟨N, rfl, _, _, hb⟩
    exact ⟨N, _, rfl, hb⟩
  · obtain ⟨tp, p, hv⟩ := hK.rng
    refine (Tryz.strconv_Atoi_range_var y (by omega) ha tp p w hv).mono ?_
    rintro e w' ⟨N, rfl, _, _, hb⟩
    exact ⟨N, _, rfl, hb⟩
theorem atoi_good (y : ByteArray) (w : World) (hs : y.size ≤ 100000) (v : Int) (h : Lib.atoiAll y.data.toList = .ok v) :
    Calls Tryz.prog 61 #[.string y] w fun e w' => e = .returned (.tuple #[.int .i64 v, .nilIface]) ∧ Below w.heap.size w w' := by
  refine (Tryz.strconv_Atoi_ok y (by omega) v h w).mono ?_
  rintro e w' ⟨rfl, rfl | ⟨t, rfl⟩⟩
  · exact ⟨rfl, Below.refl _ _⟩
  · exact ⟨rfl, Lib.bytesWorld_below w _ t⟩

theorem empty_str (s : ByteArray) : (s.toList == (⟨#[]⟩ : ByteArray).toList) = decide (toL s = []) := by
  rw [beq_str]
  congr 1
  rw [eq_iff_iff]
  constructor
  · intro h; rw [h]; rfl
  · intro h; exact toL_inj (by rw [h]; rfl)

set_option maxHeartbeats 1000000 in
set_option maxRecDepth 100000 in
theorem lengthIn_any (h : ByteArray) (w : World) (hs : h.size ≤ 100000) (hK : JK w) :
    Calls Tryz.prog 46 #[.string h] w fun e w' => ∃ (n : Nat) (b : Bool), e = .returned (.tuple #[.int .i64 n, .bool b]) ∧ Below w.heap.size w w' ∧ Kept (lenOf (toL h) = if b then some n else none) := by
  have HK := Kept.mk hK
  clear hK
  by_cases he : toL h = []
  · have hF : Kept (lenOf (toL h) = none) := ⟨by unfold lenOf; rw [if_pos he]⟩
    have hE : h.toList.isEmpty = true := by rw [Tup.empty_iff]; exact decide_eq_true he
    have hE2 : (h.toList == (⟨#[]⟩ : ByteArray).toList) = true := by rw [empty_str, decide_eq_true he]
    clear he
    go_enter Tryz.func46, Tryz.ntmps46
    go_wp2
    go_ret2
    exact ⟨0, false, rfl, Below.refl _ _, hF⟩
  · have h1 : 1 ≤ h.size := by
      rcases Nat.eq_zero_or_pos h.size with h0 | h0
      · exact absurd (List.eq_nil_of_length_eq_zero ((toL_length h).trans h0)) he
      · exact h0
    have hE : h.toList.isEmpty = false := by rw [Tup.empty_iff]; exact decide_eq_false he
    have hE2 : (h.toList == (⟨#[]⟩ : ByteArray).toList) = false := by rw [empty_str, decide_eq_false he]
    have hsl : ∀ W : World, (Instr.slice 9 (.string h) (some (.int .i64 1)) none none).run Tryz.prog W = .ok (.string (h.extract 1 h.size)) W := fun W => by
      rw [run_slice_string_from_if W 9 h .i64 _ Tryz.underlying9, if_pos ⟨by omega, by omega⟩]
      rfl
    obtain ⟨X, hX⟩ : ∃ X, h.extract 1 h.size = X := ⟨_, rfl⟩
    rw [hX] at hsl
    have hXl : toL X = (toL h).drop 1 := by rw [← hX]; exact Tup.toL_from h 1
    have hXs : Kept (X.size ≤ 4000000000) := ⟨by rw [← toL_length, hXl, List.length_drop, toL_length]; omega⟩
    have hU : lenOf (toL h) = (match Net.dec (toL X) with | some [_, y, _] => numOf y | _ => none) := by unfold lenOf; rw [if_neg he, hXl]
    have HS : Kept (X.size ≤ 100000) := ⟨by rw [← toL_length, hXl, List.length_drop, toL_length]; omega⟩
    clear he hX hXl h1
    cases hd : Net.dec (toL X) with
    | none =>
      have HD0 : Kept (Net.dec (Tup.toL X) = none) := ⟨hd⟩
      have hF : Kept (lenOf (toL h) = none) := ⟨by rw [hU, hd]⟩
      clear hd hU
      go_enter Tryz.func46, Tryz.ntmps46
      go_wp2_with (go_at_call 60
                   refine (decode_none X _ hXs.out HK.out.kit HD0.out).mono ?_
                   rintro e w1 ⟨rfl, hb1⟩
                   have HB1 := Kept.mk hb1
                   clear hb1)
      go_ret2
      exact ⟨0, false, rfl, HB1.out, hF⟩
    | some l =>
      have HDs : Kept (Net.dec (Tup.toL X) = some ((l.map Tup.bs).map Tup.toL)) := ⟨by rw [Tup.map_bs_toL]; exact hd⟩
      have HBig : Kept (∀ x ∈ l, x.length ≤ 100000) := ⟨fun x hx => by
        have h1 := Net.dec_some hd
        have h2 : x.length ≤ (Net.enc l).length := by
          obtain ⟨a, b, rfl⟩ := List.append_of_mem hx
          rw [Net.enc_append, Net.enc_cons, List.length_append, List.length_append]
          simp only [Net.one, List.length_append]
          omega
        rw [h1, toL_length] at h2
        exact Nat.le_trans h2 HS.out⟩
      by_cases h3 : l.length = 3
      · obtain ⟨x, y, z, rfl⟩ : ∃ x y z, l = [x, y, z] := by
          match l, h3 with
          | [x, y, z], _ => exact ⟨x, y, z, rfl⟩
        clear h3
        have HDs2 : Kept (Net.dec (Tup.toL X) = some ([Tup.bs x, Tup.bs y, Tup.bs z].map Tup.toL)) := ⟨HDs.out⟩
        have HYS : Kept ((Tup.bs y).size ≤ 100000) := ⟨by rw [Tup.bs_size]; exact HBig.out y (by simp)⟩
        have hU2 : lenOf (toL h) = numOf y := by rw [hU, hd]
        clear hd hU HDs HBig
        cases ha : Lib.atoiAll y with
        | ok v =>
          have HA : Kept (Lib.atoiAll (Tup.bs y).data.toList = .ok v) := ⟨ha⟩
          by_cases h0 : 0 ≤ v
          · by_cases h5 : v ≤ 100000
            · have hF : Kept (lenOf (toL h) = some v.toNat) := ⟨by rw [hU2]; unfold numOf; rw [ha]; simp only []; rw [if_pos ⟨h0, h5⟩]⟩
              have l1 : ¬ (100000 : Int) < v := by omega
              have l2 : ¬ v < 0 := by omega
              clear ha hU2
              go_enter Tryz.func46, Tryz.ntmps46
              go_wp2_with (first
                | (go_at_call 60
                   refine (decode_some X _ _ hXs.out HK.out.kit HDs2.out).mono ?_
                   rintro e w1 ⟨A, k, rfl, hb1, hR⟩
                   have HB1 := Kept.mk hb1
                   obtain ⟨g, off, rfl, hg, hc⟩ := hR.out 1 (by simp)
                   change w1.cell? ⟨g, off + 1, none⟩ = some (.string (Tup.bs y)) at hc
                   clear hb1 hR hg)
                | (go_at_call 61
                   refine (atoi_good (Tup.bs y) _ HYS.out v HA.out).mono ?_
                   rintro e w2 ⟨rfl, hb2⟩
                   have HB2 := Kept.mk (HB1.out.trans (hb2.mono HB1.out.size))
                   clear hb2))
              go_ret2
              exact ⟨v.toNat, true, by rw [Int.toNat_of_nonneg h0]; rfl, HB2.out, hF⟩
            · have hF : Kept (lenOf (toL h) = none) := ⟨by rw [hU2]; unfold numOf; rw [ha]; simp only []; rw [if_neg (fun e => h5 e.2)]⟩
              have l1 : (100000 : Int) < v := by omega
              have l2 : ¬ v < 0 := by omega
              clear ha hU2
              go_enter Tryz.func46, Tryz.ntmps46
              go_wp2_with (first
                | (go_at_call 60
                   refine (decode_some X _ _ hXs.out HK.out.kit HDs2.out).mono ?_
                   rintro e w1 ⟨A, k, rfl, hb1, hR⟩
                   have HB1 := Kept.mk hb1
                   obtain ⟨g, off, rfl, hg, hc⟩ := hR.out 1 (by simp)
                   change w1.cell? ⟨g, off + 1, none⟩ = some (.string (Tup.bs y)) at hc
                   clear hb1 hR hg)
                | (go_at_call 61
                   refine (atoi_good (Tup.bs y) _ HYS.out v HA.out).mono ?_
                   rintro e w2 ⟨rfl, hb2⟩
                   have HB2 := Kept.mk (HB1.out.trans (hb2.mono HB1.out.size))
                   clear hb2))
              go_ret2
              exact ⟨0, false, rfl, HB2.out, hF⟩
          · have hF : Kept (lenOf (toL h) = none) := ⟨by rw [hU2]; unfold numOf; rw [ha]; simp only []; rw [if_neg (fun e => h0 e.1)]⟩
            have l2 : v < 0 := by omega
            clear ha hU2
            go_enter Tryz.func46, Tryz.ntmps46
            go_wp2_with (first
              | (go_at_call 60
                 refine (decode_some X _ _ hXs.out HK.out.kit HDs2.out).mono ?_
                 rintro e w1 ⟨A, k, rfl, hb1, hR⟩
                 have HB1 := Kept.mk hb1
                 obtain ⟨g, off, rfl, hg, hc⟩ := hR.out 1 (by simp)
                 change w1.cell? ⟨g, off + 1, none⟩ = some (.string (Tup.bs y)) at hc
                 clear hb1 hR hg)
              | (go_at_call 61
                 refine (atoi_good (Tup.bs y) _ HYS.out v HA.out).mono ?_
                 rintro e w2 ⟨rfl, hb2⟩
                 have HB2 := Kept.mk (HB1.out.trans (hb2.mono HB1.out.size))
                 clear hb2))
            go_ret2
            exact ⟨0, false, rfl, HB2.out, hF⟩
        | _ =>
          have HA : Kept (∀ v, Lib.atoiAll (Tup.bs y).data.toList ≠ .ok v) := ⟨fun v e => by
            have e2 : Lib.atoiAll y = .ok v := e
            rw [ha] at e2
            cases e2⟩
          have hF : Kept (lenOf (toL h) = none) := ⟨by rw [hU2]; unfold numOf; rw [ha]⟩
          clear ha hU2
          go_enter Tryz.func46, Tryz.ntmps46
          go_wp2_with (first
            | (go_at_call 60
               refine (decode_some X _ _ hXs.out HK.out.kit HDs2.out).mono ?_
               rintro e w1 ⟨A, k, rfl, hb1, hR⟩
               have HB1 := Kept.mk hb1
               obtain ⟨g, off, rfl, hg, hc⟩ := hR.out 1 (by simp)
               change w1.cell? ⟨g, off + 1, none⟩ = some (.string (Tup.bs y)) at hc
               clear hb1 hR hg)
            | (go_at_call 61
               refine (atoi_bad (Tup.bs y) _ HYS.out (HK.out.below HB1.out) HA.out).mono ?_
               rintro e w2 ⟨N, v, rfl, hb2⟩
               have HB2 := Kept.mk (HB1.out.trans (hb2.mono HB1.out.size))
               clear hb2))
          go_ret2
          exact ⟨0, false, rfl, HB2.out, hF⟩
      · have hF : Kept (lenOf (toL h) = none) := ⟨by
          rw [hU, hd]
          match l, h3 with
          | [], _ => rfl
          | [_], _ => rfl
          | [_, _], _ => rfl
          | [_, _, _], h3 => exact absurd rfl h3
          | _ :: _ :: _ :: _ :: _, _ => rfl⟩
        have hl3 : (((l.map Tup.bs).length : Int) == 3) = false ∧ (((l.map Tup.bs).length : Int) != 3) = true := by
          rw [List.length_map]
          have : (l.length : Int) ≠ 3 := by omega
          simp [this]
        obtain ⟨l1, l2⟩ := hl3
        clear hd hU HBig h3
        generalize hL : l.map Tup.bs = L at *
        clear hL
        go_enter Tryz.func46, Tryz.ntmps46
        go_wp2_with (go_at_call 60
                     refine (decode_some X _ _ hXs.out HK.out.kit HDs.out).mono ?_
                     rintro e w1 ⟨A, k, rfl, hb1, hR⟩
                     have HB1 := Kept.mk hb1
                     clear hb1 hR)
        go_ret2
        exact ⟨0, false, rfl, HB1.out, hF⟩
end Pj
end Go.Proofs.YtmkpkmkhnphogaaGreatDoor

/-
  The program's journal: the text in some sectors, the record at a sector.
-/
namespace Go.Proofs.YtmkpkmkhnphogaaGreatDoor
open Go.RowKit Tx Dv
namespace Pj

/-- The journal at block g, on the device d. -/
structure On (Dev : World → (Nat → Prop) → Value → Disk → Prop) (w : World) (B : Nat → Prop) (b g : Nat) (d v : Value) (J : Jn.Jour) (D : Disk) : Prop where
  at' : Jr.JAt w b g d v J
  dev : Dev w B d D
section
variable {Dev : World → (Nat → Prop) → Value → Disk → Prop} {w w' : World} {B : Nat → Prop} {b g : Nat} {d v : Value} {J : Jn.Jour} {D : Disk}
theorem Mbelow (M : Means Dev) (h : Dev w B d D) (hb : Below w.heap.size w w') : Dev w' B d D := M.keep h (fun k hk => hb.block k (M.lt h k hk)) hb.size
theorem On.below (h : On Dev w B b g d v J D) (M : Means Dev) (hb : Below w.heap.size w w') : On Dev w' B b g d v J D := ⟨h.at'.below hb, Mbelow M h.dev hb⟩
end

/-! ### The text in some sectors -/
def TextIs (D : Disk) (k n : Nat) (t : List UInt8) (b : Bool) : Prop := (b = true ∧ k + Jn.count n ≤ D.S.length ∧ t = (Jn.bytes D k (Jn.count n)).take n) ∨ (b = false ∧ D.S.length < k + Jn.count n)
structure TextIn (w wr : World) (D : Disk) (k j : Nat) : Prop where
  below : Below w.heap.size w wr
  bld : Bl.Is w.heap.size w.heap.size (Lib.byteCells (Jn.bytes D k j)) wr
  len : (Jn.bytes D k j).length = 64 * j
  room : k + j ≤ D.S.length
theorem text_start (w : World) (D : Disk) (k : Nat) (hk : k ≤ D.S.length) : TextIn w (w.alloc (.cells #[.pointer none, .slice none 0 0] 111)) D k 0 :=
  ⟨(Below.refl _ _).alloc (Nat.le_refl _) _, .inl ⟨Nat.le_refl _, _, heap_alloc_new w _, World.ownsRowF_of (World.ownsRow_nil _ _ _ _), by simp [Value.ownBlock]⟩, rfl, hk⟩
theorem TextIn.next {w wr w2 w3 : World} {D : Disk} {k j : Nat} {t : ByteArray} (h : TextIn w wr D k j) (ho : D.Ok) (hk : k + j < D.S.length) (ht : t = bs (Jn.sec D (k + j))) (hb : Below wr.heap.size wr w2)
    (hw : Bl.Is w.heap.size w.heap.size (Lib.byteCells (Jn.bytes D k j) ++ Lib.strCells t) w3) (hb3 : Below w.heap.size w2 w3) : TextIn w w3 D k (j + 1) := by
  refine ⟨(h.below.trans (hb.mono h.below.size)).trans hb3, ?_, ?_, by omega⟩
  · rw [Jn.bytes_succ, Lib.byteCells_append]
    rw [ht] at hw
    exact hw
  · rw [Jn.bytes_succ, List.length_append, h.len, Jr.sec_length ho hk]
    omega
theorem Bl_below {w w' : World} {B b : Nat} {bs : List Value} (h : Bl.Is B b bs w) (hb : Below w.heap.size w w') : Bl.Is B b bs w' := by
  have f : ∀ p, Bl.At B b p bs w → Bl.At B b p bs w' := by
    intro p h
    have hlt := Lib.BuilderAtF.lt h
    obtain ⟨hB, v, hbk, hown, hne⟩ := h
    refine ⟨hB, v, (hb.block b hlt).trans hbk, hown.kept (row := none) ⟨hb.os, hb.tape, hb.output, hb.size, fun k hk _ => hb.block k hk⟩ ?_, hne⟩
    cases hv : v.ownBlock <;> simp
  rcases h with h | h
  · exact .inl (f _ h)
  · exact .inr (f _ h)
theorem TextIn.on {w wr w2 : World} {D : Disk} {k j : Nat} (h : TextIn w wr D k j) (hb : Below wr.heap.size wr w2) : TextIn w w2 D k j :=
  ⟨h.below.trans (hb.mono h.below.size), Bl_below h.bld hb, h.len, h.room⟩

set_option maxHeartbeats 2000000 in
set_option maxRecDepth 100000 in
theorem text_any {Dev : World → (Nat → Prop) → Value → Disk → Prop} (M : Means Dev) (w : World) (B : Nat → Prop) (b g : Nat) (dp : Addr) (v : Value) (J : Jn.Jour) (D : Disk) (h : On Dev w B b g (.pointer (some dp)) v J D) (k n : Nat) (hn : n ≤ 100000) (hk : k ≤ D.S.length) :
    Calls Tryz.prog 47 #[.pointer (some ⟨g, 0, none⟩), .int .i64 k, .int .i64 n] w fun e w' => ∃ (t : ByteArray) (b : Bool), e = .returned (.tuple #[.string t, .bool b]) ∧ Below w.heap.size w w' ∧ Kept (TextIs D k n (toL t) b) := by
  have HO : Kept (D.Ok) := ⟨(M.ok h.dev).1⟩
  have HON : Kept (∀ w', Below w.heap.size w w' → On Dev w' B b g (.pointer (some dp)) v J D) := ⟨fun w' hb => h.below M hb⟩
  have H0 := Kept.mk (text_start w D k hk)
  obtain ⟨C, hC⟩ : ∃ C, Jn.count n = C := ⟨_, rfl⟩
  have HC := Kept.mk hC
  have hC1 : C ≤ 2000 := by rw [← hC]; unfold Jn.count; omega
  have hC2 : n ≤ 64 * C := by rw [← hC]; unfold Jn.count; omega
  have HC3 : Kept (∀ j, 64 * j < n → j + 1 ≤ C) := ⟨fun j hj => by rw [← hC]; unfold Jn.count; omega⟩
  have HC4 : Kept (∀ j, n ≤ 64 * j → C ≤ j) := ⟨fun j hj => by rw [← hC]; unfold Jn.count; omega⟩
  obtain ⟨Z, hZ⟩ : ∃ Z, D.S.length = Z := ⟨_, rfl⟩
  have HZ := Kept.mk hZ
  have hZ4 : Z ≤ 4096 := by rw [← hZ]; exact HO.out.few
  rw [hZ] at hk
  clear h hC hZ
  go_enter Tryz.func47, Tryz.ntmps47
  go_wp2
  generalize w.alloc (.cells #[.pointer none, .slice none 0 0] 111) = w0 at H0 ⊢
  go_loopw [1] (fun kk wr => ∃ j : Nat, j ≤ C ∧ kk = .int .i64 ((k : Int) + j) ∧ Kept (TextIn w wr D k j)) (fun kk _ => 10000 - (intOf kk).toNat)
  case atStart => exact ⟨0, by omega, by simp, H0⟩
  case round =>
    obtain ⟨j, hj, rfl, HT⟩ := hrel
    have HON2 := Kept.mk (HON.out wr HT.out.below)
    have c0 := HON2.out.at'.c0
    have hlc : (Lib.byteCells (Jn.bytes D k j)).length = 64 * j := by rw [Lib.byteCells_length, HT.out.len]
    have HLC := Kept.mk hlc
    have k0 : (0 : Int) ≤ (k : Int) + j := by omega
    have k1 : (k : Int) + j ≤ 7000 := by omega
    have HLn : Kept (Calls Tryz.prog 62 #[.pointer (some ⟨w.heap.size, 0, none⟩)] wr fun e w' => e = .returned (.int .i64 ((64 * j : Nat) : Int)) ∧ w' = wr) := ⟨by
      have := Tryz.Builder_Len_f w.heap.size w.heap.size _ wr HT.out.bld
      rw [hlc] at this
      exact this⟩
    clear hlc
    by_cases hlt : 64 * j < n
    · have q0 : ((64 * j : Nat) : Int) < (n : Int) := by omega
      have q1 : 64 * j < n := hlt
      have HQ := Kept.mk hlt
      clear hlt
      by_cases hr : k + j < Z
      · have HR := Kept.mk hr
        have HRd : Kept (Calls Tryz.prog 28 #[.pointer (some dp), .int .i64 ((k : Int) + j)] wr fun e w' => ∃ t : ByteArray, e = .returned (.tuple #[.string t, .int .i64 0]) ∧ Kept (t = bs (Jn.sec D (k + j))) ∧ Below wr.heap.size wr w') := ⟨by
          have := M.read HON2.out.dev ((k + j : Nat) : Int) (by omega) (by omega)
          rw [Jr.read_has (by rw [HZ.out]; exact hr)] at this
          rw [show (k : Int) + j = ((k + j : Nat) : Int) by omega]
          exact this⟩
        clear hr
        go_wp2_with (first
          | (go_at_call 62
             refine HLn.out.mono ?_
             rintro e w1 ⟨rfl, hw⟩
             obtain rfl := hw.symm)
          | (go_at_call 28
             refine HRd.out.mono ?_
             rintro e w2 ⟨t, rfl, ht, hb2⟩
             have HT2 := Kept.mk (HT.out.on hb2)
             have HB2 := Kept.mk hb2
             have HTS : Kept ((Lib.byteCells (Jn.bytes D k j)).length + t.size ≤ 140737488355328) := ⟨by rw [HLC.out, ht.out, bs_size, Jr.sec_length HO.out (by rw [HZ.out]; exact HR.out)]; omega⟩
             clear hb2)
          | (go_at_call 63
             refine (Bl.writeString_any w.heap.size w.heap.size _ t _ HT2.out.bld HTS.out HT2.out.below.size).mono ?_
             rintro e w3 ⟨rfl, hi3, hb3⟩
             have HT3 := Kept.mk (HT.out.next HO.out (by rw [HZ.out]; exact HR.out) ht.out HB2.out hi3 hb3)
             clear hi3 hb3))
        go_roundw
        case rel => exact ⟨j + 1, HC3.out j HQ.out, by go_num, HT3⟩
        case measure => simp only [intOf]; omega
      · have HR : Kept (Z < k + C) := ⟨by have := HC3.out j HQ.out; omega⟩
        have HRd : Kept (Calls Tryz.prog 28 #[.pointer (some dp), .int .i64 ((k : Int) + j)] wr fun e w' => ∃ t : ByteArray, e = .returned (.tuple #[.string t, .int .i64 1]) ∧ Below wr.heap.size wr w') := ⟨by
          have := M.read HON2.out.dev ((k + j : Nat) : Int) (by omega) (by omega)
          rw [Jr.read_out (by rw [HZ.out]; exact hr)] at this
          rw [show (k : Int) + j = ((k + j : Nat) : Int) by omega]
          refine this.mono ?_
          rintro e w' ⟨t, rfl, _, hb⟩
          exact ⟨t, rfl, hb⟩⟩
        clear hr
        go_wp2_with (first
          | (go_at_call 62
             refine HLn.out.mono ?_
             rintro e w1 ⟨rfl, hw⟩
             obtain rfl := hw.symm)
          | (go_at_call 28
             refine HRd.out.mono ?_
             rintro e w2 ⟨t, rfl, hb2⟩
             have HT2 := Kept.mk (HT.out.on hb2)
             clear hb2))
        go_ret2
        exact ⟨_, false, rfl, HT2.out.below, ⟨.inr ⟨rfl, by rw [HC.out, HZ.out]; exact HR.out⟩⟩⟩
    · obtain rfl : j = C := by have := HC4.out j (by omega); omega
      have q0 : ¬ ((64 * j : Nat) : Int) < (n : Int) := by omega
      have q1 : ¬ 64 * j < n := hlt
      obtain ⟨u, hu⟩ : ∃ u : ByteArray, u = ⟨(Jn.bytes D k j).toArray⟩ := ⟨_, rfl⟩
      have HU := Kept.mk hu
      have HSt : Kept (Calls Tryz.prog 64 #[.pointer (some ⟨w.heap.size, 0, none⟩)] wr fun e w' => e = .returned (.string u) ∧ Below w.heap.size wr w') := ⟨by
        refine (Tryz.Builder_String_any_f w.heap.size w.heap.size _ wr HT.out.bld HT.out.below.size).mono ?_
        rintro e w' ⟨rfl, _, hb⟩
        rw [hu]
        exact ⟨rfl, hb⟩⟩
      have hus : u.size = 64 * j := by
        have : u = bs (Jn.bytes D k j) := hu
        rw [this, bs_size, HT.out.len]
      have hsl : ∀ W : World, (Instr.slice 9 (.string u) none (some (.int .i64 (n : Int))) none).run Tryz.prog W = .ok (.string (u.extract 0 n)) W := fun W => by
        rw [run_slice_string_to_if W 9 u .i64 _ Tryz.underlying9, if_pos ⟨by omega, by omega⟩]
        rfl
      have HE : Kept (toL (u.extract 0 n) = (Jn.bytes D k (Jn.count n)).take n) := ⟨by
        rw [toL_extract, HC.out]
        have : u = bs (Jn.bytes D k j) := hu
        rw [this, toL_bs]
        rfl⟩
      have HP : Kept (k + Jn.count n ≤ D.S.length) := ⟨by rw [HC.out]; exact HT.out.room⟩
      clear hu hus hlt
      go_wp2_with (first
        | (go_at_call 62
           refine HLn.out.mono ?_
           rintro e w1 ⟨rfl, hw⟩
           obtain rfl := hw.symm)
        | (go_at_call 64
           refine HSt.out.mono ?_
           rintro e w2 ⟨rfl, hb2⟩
           have HB2 := Kept.mk (HT.out.below.trans hb2)
           clear hb2))
      go_ret2
      exact ⟨_, true, rfl, HB2.out, ⟨.inl ⟨rfl, HP.out, HE.out⟩⟩⟩
end Pj
end Go.Proofs.YtmkpkmkhnphogaaGreatDoor

/-
  The program's journal: the record at a sector.
-/
namespace Go.Proofs.YtmkpkmkhnphogaaGreatDoor
open Go.RowKit Tx Dv
namespace Pj

/-! ### What a head's bytes say of a record -/
theorem pad_strip {l : List UInt8} (h : l.length = 64) : pad (Jn.strip l) = l := by
  unfold pad
  conv => rhs; rw [Jn.strip_split l]
  rw [h]
theorem rec_strip {D : Disk} {a n : Nat} {s : List UInt8} (h : Jn.IsRec D a n s) : Jn.strip (Jn.sec D a) = Jn.head 49 n s := by rw [h.hd, Jn.strip_head]
theorem rec_len {D : Disk} {a n : Nat} {s : List UInt8} (h : Jn.IsRec D a n s) (hn : n < 1000000000) : lenOf (Jn.strip (Jn.sec D a)) = some s.length := by
  have ht := h.told hn
  unfold lenOf
  rw [if_neg (by rw [rec_strip h, head_rest]; exact List.cons_ne_nil _ _), ht]
  exact numOf_dig _ h.few
theorem no_len {D : Disk} {a n : Nat} (hn : n < 1000000000) (h : lenOf (Jn.strip (Jn.sec D a)) = none) : ∀ s, ¬ Jn.IsRec D a n s := fun s k => by rw [rec_len k hn] at h; cases h
theorem no_room {D : Disk} {a n m : Nat} (hn : n < 1000000000) (h : lenOf (Jn.strip (Jn.sec D a)) = some m) (hr : D.S.length < a + 1 + Jn.count m) : ∀ s, ¬ Jn.IsRec D a n s := fun s k => by
  rw [rec_len k hn] at h
  injection h with h
  have := k.room
  rw [h] at this
  omega
theorem yes_rec {D : Disk} {a n m : Nat} (ho : D.Ok) (ha : a < D.S.length) (hm : m ≤ 100000) (hr : a + 1 + Jn.count m ≤ D.S.length) {t : List UInt8} (ht : t = (Jn.bytes D (a + 1) (Jn.count m)).take m) (h : Jn.strip (Jn.sec D a) = Jn.head 49 n t) : Jn.IsRec D a n t := by
  have hp : pad (Jn.head 49 n ((Jn.bytes D (a + 1) (Jn.count m)).take m)) = Jn.sec D a := by rw [← ht, ← h, pad_strip (Jr.sec_length ho ha)]
  rw [ht]
  exact Jn.read_yes ho hm hr hp
theorem no_rec {D : Disk} {a n m : Nat} (hn : n < 1000000000) (hl : lenOf (Jn.strip (Jn.sec D a)) = some m) {t : List UInt8} (ht : t = (Jn.bytes D (a + 1) (Jn.count m)).take m) (h : Jn.strip (Jn.sec D a) ≠ Jn.head 49 n t) : ∀ s, ¬ Jn.IsRec D a n s := fun s k => by
  rw [rec_len k hn] at hl
  injection hl with hl
  rw [← hl, k.body] at ht
  rw [ht] at h
  exact h (rec_strip k)
theorem lenOf_le {h : List UInt8} {m : Nat} (e : lenOf h = some m) : m ≤ 100000 := by
  unfold lenOf at e
  split at e
  · cases e
  · split at e
    · exact numOf_le e
    · cases e

theorem length_none (h : ByteArray) (w : World) (hs : h.size ≤ 100000) (hK : JK w) (e : lenOf (toL h) = none) :
    Calls Tryz.prog 46 #[.string h] w fun e w' => ∃ n : Nat, e = .returned (.tuple #[.int .i64 n, .bool false]) ∧ Below w.heap.size w w' := by
  refine (lengthIn_any h w hs hK).mono ?_
  rintro e' w' ⟨n, b, rfl, hb, hk⟩
  have := hk.out
  rw [e] at this
  cases b with
  | false => exact ⟨n, rfl, hb⟩
  | true => rw [if_pos rfl] at this; cases this
theorem length_some (h : ByteArray) (w : World) (hs : h.size ≤ 100000) (hK : JK w) {m : Nat} (e : lenOf (toL h) = some m) :
    Calls Tryz.prog 46 #[.string h] w fun e w' => e = .returned (.tuple #[.int .i64 m, .bool true]) ∧ Below w.heap.size w w' := by
  refine (lengthIn_any h w hs hK).mono ?_
  rintro e' w' ⟨n, b, rfl, hb, hk⟩
  have := hk.out
  rw [e] at this
  cases b with
  | false => rw [if_neg (by simp)] at this; cases this
  | true => rw [if_pos rfl] at this; injection this with this; subst this; exact ⟨rfl, hb⟩
theorem trim_any (s : ByteArray) (w : World) (hs : s.size ≤ 64) :
    Calls Tryz.prog 45 #[.string s, .string ⟨#[0]⟩] w fun e w' => e = .returned (.string (bs (Jn.strip (toL s)))) ∧ w' = w :=
  Tryz.strings_TrimRight_one s 0 (by decide) w (by omega)

/-- What `stored` answers. -/
def StPost (D : Disk) (a n : Nat) (w : World) (e : Ending) (w' : World) : Prop := ∃ (t : ByteArray) (b : Bool), e = .returned (.tuple #[.string t, .bool b]) ∧ Below w.heap.size w w' ∧ Kept (Jn.ReadIs D a n (toL t) b)

section
variable {Dev : World → (Nat → Prop) → Value → Disk → Prop} (M : Means Dev) (w : World) (B : Nat → Prop) (b g : Nat) (dp : Addr) (L : List (List UInt8)) (a : Nat) (D : Disk) (A : Option Addr) (m0 : Nat)
include M

set_option maxHeartbeats 2000000 in
set_option maxRecDepth 100000 in
theorem stored_out (h : On Dev w B b g (.pointer (some dp)) (.slice A L.length m0) ⟨L, a⟩ D) (ha : a = D.S.length) :
    Calls Tryz.prog 38 #[.pointer (some ⟨g, 0, none⟩)] w (StPost D a L.length w) := by
  have c0 := h.at'.c0
  have c2 := h.at'.c2
  have hfew := (M.ok h.dev).1.few
  have hr := M.read (Mbelow M h.dev ((Below.refl _ _).drew)) (a : Int) (by omega) (by omega)
  rw [Jr.read_out (by omega)] at hr
  have HR := Kept.mk hr
  have HN := Kept.mk (Jn.none_out (n := L.length) (show D.S.length ≤ a by omega))
  have HH := Kept.mk h
  clear h hr ha
  go_enter Tryz.func38, Tryz.ntmps38
  go_wp2
  go_region_held3 (fun w' => w'.cell? ⟨g, 0, none⟩ = some (.pointer (some dp)) ∧ w'.cell? ⟨g, 2, none⟩ = some (.int .i64 a))
    (first
      | go_keep
      | exact ⟨d0, d2⟩)
    (first
      | (go_at_call 28
         refine HR.out.mono ?_
         rintro e w1 ⟨t, rfl, ht, hb⟩
         have H1 := HH.out.below M (((Below.refl _ _).drew).trans hb)
         have HB := Kept.mk (((Below.refl _ _).drew).trans hb)
         have d0 := H1.at'.c0
         have d2 := H1.at'.c2
         clear hb H1))
  go_wp2
  go_ret2
  exact ⟨_, _, rfl, HB.out, ⟨.inr ⟨rfl, HN.out⟩⟩⟩

set_option maxHeartbeats 4000000 in
set_option maxRecDepth 100000 in
theorem stored_in (h : On Dev w B b g (.pointer (some dp)) (.slice A L.length m0) ⟨L, a⟩ D) (hK : JK w) (ha : a < D.S.length) (hla : L.length ≤ a) :
    Calls Tryz.prog 38 #[.pointer (some ⟨g, 0, none⟩)] w (StPost D a L.length w) := by
  have c0 := h.at'.c0
  have c2 := h.at'.c2
  have ho := (M.ok h.dev).1
  have hfew := ho.few
  have hr := M.read (Mbelow M h.dev ((Below.refl _ _).drew)) (a : Int) (by omega) (by omega)
  rw [Jr.read_has ha] at hr
  have HR := Kept.mk hr
  have HH := Kept.mk h
  have HO := Kept.mk ho
  have HK := Kept.mk hK
  have HA := Kept.mk ha
  have hsl := Jr.sec_length ho ha
  obtain ⟨T, hT⟩ : ∃ T, T = bs (Jn.sec D a) := ⟨_, rfl⟩
  obtain ⟨H, hH⟩ : ∃ H, H = bs (Jn.strip (Jn.sec D a)) := ⟨_, rfl⟩
  have HT := Kept.mk hT
  have hHl : toL H = Jn.strip (Jn.sec D a) := by rw [hH, toL_bs]
  have HHL := Kept.mk hHl
  have HTr : Kept (∀ w, Calls Tryz.prog 45 #[.string T, .string ⟨#[0]⟩] w fun e w' => e = .returned (.string H) ∧ w' = w) := ⟨fun w => by
    have := trim_any T w (by rw [hT, bs_size, hsl]; omega)
    rw [hT, toL_bs] at this
    rw [hT, hH]
    exact this⟩
  have HHs : Kept (H.size ≤ 64) := ⟨by rw [hH, bs_size]; have := Jn.strip_le (Jn.sec D a); omega⟩
  have hl9 : L.length < 1000000000 := by omega
  have HL9 := Kept.mk hl9
  have HL6 : Kept (L.length ≤ 1000000) := ⟨by omega⟩
  have a0 : (0 : Int) ≤ a := by omega
  have a1 : (a : Int) ≤ 4096 := by omega
  clear h hr ho hK ha hsl hT hH hHl hl9 hla hfew
  cases hlen : lenOf (Jn.strip (Jn.sec D a)) with
  | none =>
    have HN := Kept.mk (no_len HL9.out hlen)
    have HLn : Kept (lenOf (toL H) = none) := ⟨by rw [HHL.out]; exact hlen⟩
    clear hlen
    go_enter Tryz.func38, Tryz.ntmps38
    go_wp2
    go_region_held3 (fun w' => w'.cell? ⟨g, 0, none⟩ = some (.pointer (some dp)) ∧ w'.cell? ⟨g, 2, none⟩ = some (.int .i64 a))
      (first
        | go_keep
        | exact ⟨d0, d2⟩)
      (first
        | (go_at_call 28
           refine HR.out.mono ?_
           rintro e w1 ⟨t, rfl, ht, hb⟩
           obtain rfl : t = T := ht.out.trans HT.out.symm
           have H1 := HH.out.below M (((Below.refl _ _).drew).trans hb)
           have HB := Kept.mk (((Below.refl _ _).drew).trans hb)
           have d0 := H1.at'.c0
           have d2 := H1.at'.c2
           clear hb H1 ht))
    clear c0 c2 d0 d2
    go_wp2_with (first
      | (go_at_call 45
         refine (HTr.out _).mono ?_
         rintro e w2 ⟨rfl, hw⟩
         obtain rfl := hw.symm)
      | (go_at_call 46
         refine (length_none H _ (by have := HHs.out; omega) (HK.out.below HB.out) HLn.out).mono ?_
         rintro e w3 ⟨n3, rfl, hb3⟩
         have HB3 := Kept.mk (HB.out.trans (hb3.mono HB.out.size))
         clear hb3))
    go_ret2
    exact ⟨_, _, rfl, HB3.out, ⟨.inr ⟨rfl, HN.out⟩⟩⟩
  | some m =>
    have HM : Kept (m ≤ 100000) := ⟨lenOf_le hlen⟩
    have HLn : Kept (lenOf (toL H) = some m) := ⟨by rw [HHL.out]; exact hlen⟩
    have HLen := Kept.mk hlen
    clear hlen
    by_cases hroom : D.S.length < a + 1 + Jn.count m
    · have HN := Kept.mk (no_room HL9.out HLen.out hroom)
      have HRm := Kept.mk hroom
      clear hroom
      go_enter Tryz.func38, Tryz.ntmps38
      go_wp2
      go_region_held3 (fun w' => w'.cell? ⟨g, 0, none⟩ = some (.pointer (some dp)) ∧ w'.cell? ⟨g, 2, none⟩ = some (.int .i64 a))
        (first
          | go_keep
          | exact ⟨d0, d2⟩)
        (first
          | (go_at_call 28
             refine HR.out.mono ?_
             rintro e w1 ⟨t, rfl, ht, hb⟩
             obtain rfl : t = T := ht.out.trans HT.out.symm
             have H1 := Kept.mk (HH.out.below M (((Below.refl _ _).drew).trans hb))
             have HB := Kept.mk (((Below.refl _ _).drew).trans hb)
             have d0 := H1.out.at'.c0
             have d2 := H1.out.at'.c2
             clear hb ht))
      clear c0 c2 d0 d2
      go_wp2_with (first
        | (go_at_call 45
           refine (HTr.out _).mono ?_
           rintro e w2 ⟨rfl, hw⟩
           obtain rfl := hw.symm)
        | (go_at_call 46
           refine (length_some H _ (by have := HHs.out; omega) (HK.out.below HB.out) HLn.out).mono ?_
           rintro e w3 ⟨rfl, hb3⟩
           have HB3 := Kept.mk (HB.out.trans (hb3.mono HB.out.size))
           have H3 := Kept.mk (H1.out.below M hb3)
           have e2 := H3.out.at'.c2
           clear hb3)
        | (go_at_call 47
           refine (text_any M _ B b g dp _ _ D H3.out (a + 1) m HM.out HA.out).mono ?_
           rintro e w4 ⟨t4, b4, rfl, hb4, ht4⟩
           obtain rfl : b4 = false := by
             rcases ht4.out with ⟨_, h2, _⟩ | ⟨h2, _⟩
             · have := HRm.out; omega
             · exact h2
           have HB4 := Kept.mk (HB3.out.trans (hb4.mono HB3.out.size))
           have H4 := Kept.mk (H3.out.below M hb4)
           clear hb4 ht4))
      go_ret2
      exact ⟨_, _, rfl, HB4.out, ⟨.inr ⟨rfl, HN.out⟩⟩⟩
    · have HRm : Kept (a + 1 + Jn.count m ≤ D.S.length) := ⟨by omega⟩
      clear hroom
      obtain ⟨X, hX⟩ : ∃ X, X = (Jn.bytes D (a + 1) (Jn.count m)).take m := ⟨_, rfl⟩
      have HX := Kept.mk hX
      have hXl : X.length ≤ 100000 := by rw [hX, List.length_take]; have := HM.out; omega
      have HXL := Kept.mk hXl
      clear hX hXl
      obtain ⟨bb, hbb⟩ : ∃ bb : Bool, decide (Jn.strip (Jn.sec D a) = Jn.head 49 L.length X) = bb := ⟨_, rfl⟩
      have HFin : Kept (Jn.ReadIs D a L.length (if bb then X else []) bb) := ⟨by
        cases bb with
        | true => exact .inl ⟨rfl, yes_rec HO.out HA.out HM.out HRm.out HX.out (of_decide_eq_true hbb)⟩
        | false => exact .inr ⟨rfl, no_rec HL9.out HLen.out HX.out (of_decide_eq_false hbb)⟩⟩
      have HCmp : Kept (∀ u : ByteArray, Kept (u = bs (rest L.length X)) → (H.toList == ((⟨#[49]⟩ : ByteArray) ++ u).toList) = bb) := ⟨fun u hu => by
        rw [beq_str, hu.out, mark_rest, ← hbb, ← bs_toL H, HHL.out]
        by_cases e : Jn.strip (Jn.sec D a) = Jn.head 49 L.length X
        · rw [decide_eq_true e, decide_eq_true (by rw [e])]
        · rw [decide_eq_false e, decide_eq_false (fun k => e (bs_inj k))]⟩
      have HRs : Kept (∀ u : ByteArray, Kept (u = bs (rest L.length X)) → ¬ 9223372036854775807 < (⟨#[49]⟩ : ByteArray).size + u.size) := ⟨fun u hu => by
        have := rest_size (n := L.length) (s := X) HL9.out HXL.out
        have e1 : (⟨#[49]⟩ : ByteArray).size = 1 := rfl
        rw [hu.out, e1]
        omega⟩
      clear hbb
      cases bb
      all_goals
        go_enter Tryz.func38, Tryz.ntmps38
        go_wp2
        go_region_held3 (fun w' => w'.cell? ⟨g, 0, none⟩ = some (.pointer (some dp)) ∧ w'.cell? ⟨g, 2, none⟩ = some (.int .i64 a))
          (first
            | go_keep
            | exact ⟨d0, d2⟩)
          (first
            | (go_at_call 28
               refine HR.out.mono ?_
               rintro e w1 ⟨t, rfl, ht, hb⟩
               obtain rfl : t = T := ht.out.trans HT.out.symm
               have H1 := Kept.mk (HH.out.below M (((Below.refl _ _).drew).trans hb))
               have HB := Kept.mk (((Below.refl _ _).drew).trans hb)
               have d0 := H1.out.at'.c0
               have d2 := H1.out.at'.c2
               clear hb ht))
        clear c0 c2 d0 d2
        go_wp2_with (first
          | (go_at_call 45
             refine (HTr.out _).mono ?_
             rintro e w2 ⟨rfl, hw⟩
             obtain rfl := hw.symm)
          | (go_at_call 46
             refine (length_some H _ (by have := HHs.out; omega) (HK.out.below HB.out) HLn.out).mono ?_
             rintro e w3 ⟨rfl, hb3⟩
             have HB3 := Kept.mk (HB.out.trans (hb3.mono HB.out.size))
             have H3 := Kept.mk (H1.out.below M hb3)
             have e2 := H3.out.at'.c2
             clear hb3)
          | (go_at_call 47
             refine (text_any M _ B b g dp _ _ D H3.out (a + 1) m HM.out HA.out).mono ?_
             rintro e w4 ⟨t4, b4, rfl, hb4, ht4⟩
             obtain ⟨rfl, ht5⟩ : b4 = true ∧ toL t4 = X := by
               rcases ht4.out with ⟨h1, _, h3⟩ | ⟨_, h2⟩
               · exact ⟨h1, h3.trans HX.out.symm⟩
               · have := HRm.out; omega
             obtain rfl : t4 = bs X := by rw [← ht5, bs_toL]
             have HB4 := Kept.mk (HB3.out.trans (hb4.mono HB3.out.size))
             have H4 := Kept.mk (H3.out.below M hb4)
             have f1 := H4.out.at'.c1
             clear hb4 ht4 ht5)
          | (go_at_call 48
             refine (rest_any L.length (bs X) _ HL6.out (by rw [bs_size]; exact HXL.out) (HK.out.below HB4.out)).mono ?_
             rintro e w5 ⟨t5, rfl, hb5, ht5⟩
             rw [toL_bs] at ht5
             have HB5 := Kept.mk (HB4.out.trans (hb5.mono HB4.out.size))
             have hCmp := HCmp.out t5 ht5
             have hSm := HRs.out t5 ht5
             have hCmp2 : (H.toList != ((⟨#[49]⟩ : ByteArray) ++ t5).toList) = !(H.toList == ((⟨#[49]⟩ : ByteArray) ++ t5).toList) := rfl
             rw [hCmp] at hCmp2
             simp only [Bool.not_true, Bool.not_false] at hCmp2
             clear hb5 ht5))
        go_ret2
        exact ⟨_, _, rfl, HB5.out, ⟨by first | exact HFin.out | (rw [toL_bs]; exact HFin.out)⟩⟩
end
end Pj
end Go.Proofs.YtmkpkmkhnphogaaGreatDoor

/-
  The program's journal: add, Open.
-/
namespace Go.Proofs.YtmkpkmkhnphogaaGreatDoor
open Go.RowKit Tx Dv
namespace Pj

/-- What `add` leaves. -/
structure Added (w w' : World) (b g : Nat) (d v v' : Value) (J : Jn.Jour) : Prop where
  at' : Jr.JAt w' b g d v' J
  only : Only (blocks g v) w w'
  row : ∀ k, v'.ownBlock = some k → v.ownBlock = some k ∨ w.heap.size ≤ k
  high : v.ownBlock = none → Below w.heap.size w w' ∨ True

set_option maxHeartbeats 2000000 in
set_option maxRecDepth 100000 in
theorem add_any (w : World) (b g : Nat) (d : Value) (A : Option Addr) (m : Nat) (L : List (List UInt8)) (a : Nat) (h : Jr.JAt w b g d (.slice A L.length m) ⟨L, a⟩) (s : ByteArray) (hs : s.size ≤ 100000) (hl : L.length + 1 ≤ 4096) (hp : a + 1 + Jn.count s.size ≤ 4096) :
    Calls Tryz.prog 39 #[.pointer (some ⟨g, 0, none⟩), .string s] w fun e w' => e = .returned (.tuple #[]) ∧ ∃ v', Added w w' b g d (.slice A L.length m) v' ⟨L ++ [toL s], a + 1 + Jn.count s.size⟩ := by
  have c1 := h.c1
  obtain ⟨n, hn⟩ : ∃ n, Jn.count s.size = n := ⟨_, rfl⟩
  have HC : Kept (∀ w, Calls Tryz.prog 42 #[.int .i64 s.size] w fun e w' => e = .returned (.int .i64 (1 + (n : Int))) ∧ w' = w) := ⟨fun w => by have := sectorsOf_any s.size w (by omega); rw [hn] at this; exact this⟩
  have hn2 : n ≤ 2000 := by rw [← hn]; unfold Jn.count; omega
  rw [hn] at hp ⊢
  have HLN : Kept (L.length + 1 ≤ 4096) := ⟨hl⟩
  have HAn : Kept (a + 1 + n ≤ 4096) := ⟨hp⟩
  have HN1 : Kept (((L.map bs).length + 1) * 16 ≤ 140737488355328) := ⟨by rw [List.length_map]; omega⟩
  have HN2 : Kept ((L.map bs).length + 1 ≤ maxLen) := ⟨by rw [List.length_map]; unfold maxLen; omega⟩
  have HE1 : Kept (Own.Es Value.string w b (.slice A L.length m) (L.map bs)) := ⟨h.es⟩
  have HBs : Kept (b ≤ w.heap.size) := ⟨by have h1 := h.low; have h2 := h.lt; omega⟩
  have HX := Kept.mk h
  have a0 : (0 : Int) ≤ a := by omega
  have a1 : (a : Int) ≤ 4096 := by omega
  have n0 : (0 : Int) ≤ n := by omega
  have n1 : (n : Int) ≤ 2000 := by omega
  have hsz : s.size ≤ 9223372036854775807 := by omega
  have y1 : (a : Int) + (1 + (n : Int)) = (a : Int) + 1 + n := by omega
  clear h hn hs hl hp
  go_enter Tryz.func39, Tryz.ntmps39
  go_wp2_with (refine Own.wpList_append1b Jr.strTy Jr.str_one rfl _ _ rfl rfl HE1.out HBs.out s _ rfl rfl HN1.out HN2.out ?_
               intro v2 w2 hE2 hg2 hrow
               obtain ⟨A2, n2, k2, rfl⟩ : ∃ A n k, v2 = Value.slice A n k := by
                 obtain ⟨A, k, e⟩ := hE2.len
                 exact ⟨A, _, k, e⟩
               obtain ⟨e1, f1, -⟩ := HX.out.still hg2
               have H2 := Kept.mk (HX.out.push (s := toL s) (by rw [bs_toL]; exact hE2) hg2 HLN.out)
               have HG2 := Kept.mk (And.intro hg2 hrow)
               have HO2 : Kept (Only (blocks g (.slice A L.length m)) w (w2.setCell ⟨g, 1, none⟩ (.slice A2 n2 k2))) := ⟨((Only.refl _ w).grown hg2 (fun k hk _ => .inr hk)).setCell _ _ (fun _ => .inl rfl)⟩
               clear hE2 hg2 hrow)
  have e2 := H2.out.c2
  have f2 := H2.out.free 2 (by omega)
  clear c1
  generalize w2.setCell ⟨g, 1, none⟩ (.slice A2 n2 k2) = w3 at *
  refine wp_region_still_tail 10 (by kernel_rfl) (by kernel_rfl) ?_
  simp only [List.take_succ_cons, List.take_zero, List.drop_succ_cons, List.drop_zero]
  repeat (first | still_step | still_call (HC.out _))
  refine wpStill_nil ?_
  go_wp2
  go_end0
  have hat := H2.out.setPos (a + 1 + n) HAn.out
  rw [show ((a + 1 + n : Nat) : Int) = (a : Int) + 1 + n by omega] at hat
  refine ⟨rfl, _, ⟨hat.below ((Below.refl _ _).drew), (HO2.out.setCell _ _ (fun _ => .inl rfl)).drew, HG2.out.2, fun _ => .inr trivial⟩⟩

/-! ### Open -/
structure OpenIn (Dev : World → (Nat → Prop) → Value → Disk → Prop) (w wr : World) (B : Nat → Prop) (d v : Value) (D : Disk) (L : List (List UInt8)) (e : Nat) : Prop where
  at' : Jr.JAt wr w.heap.size w.heap.size d v ⟨L, e⟩
  dev : Dev wr B d D
  recs : Jn.Recs D 0 0 L e
  below : Below w.heap.size w wr
section
variable {Dev : World → (Nat → Prop) → Value → Disk → Prop} {w wr w2 : World} {B : Nat → Prop} {d v v' : Value} {D : Disk} {L : List (List UInt8)} {e : Nat}
theorem open_start (M : Means Dev) (h : Dev w B d D) : OpenIn Dev w (w.alloc (.cells #[d, .slice none 0 0, .int .i64 0] 63)) B d (.slice none 0 0) D [] 0 := by
  have hc : ∀ j, (w.alloc (.cells #[d, .slice none 0 0, .int .i64 0] 63)).cell? ⟨w.heap.size, j, none⟩ = (#[d, Value.slice none 0 0, .int .i64 0] : Array Value)[j]? := fun j => cell_of_row _ _ j _ _ (0, 0) (heap_alloc_new w _)
  obtain ⟨a, ha⟩ := M.ptr h
  exact ⟨⟨by simp, Nat.le_refl _, hc 0, hc 1, hc 2, fun j _ => frozen_of_row _ _ j _ _ (heap_alloc_new w _), Own.Es.nil _ _ _, (fun e => by cases e), ⟨_, ha⟩, by simp, by simp⟩, Mbelow M h ((Below.refl _ _).alloc (Nat.le_refl _) _), rfl, (Below.refl _ _).alloc (Nat.le_refl _) _⟩
theorem OpenIn.on (h : OpenIn Dev w wr B d v D L e) (M : Means Dev) (hb : Below wr.heap.size wr w2) : OpenIn Dev w w2 B d v D L e := ⟨h.at'.below hb, Mbelow M h.dev hb, h.recs, h.below.trans (hb.mono h.below.size)⟩
theorem OpenIn.le (h : OpenIn Dev w wr B d v D L e) (M : Means Dev) : e ≤ D.S.length ∧ L.length ≤ e ∧ D.S.length ≤ 4096 := by
  have h1 : D.S.length ≤ 4096 := (M.ok h.dev).1.few
  have h2 := h.recs.le (Nat.zero_le _)
  omega
theorem OpenIn.added {s : ByteArray} (h : OpenIn Dev w wr B d v D L e) (M : Means Dev) (hd : Dev w B d D) (hr : Jn.IsRec D e L.length (toL s)) (ha : Added wr w2 w.heap.size w.heap.size d v v' ⟨L ++ [toL s], e + 1 + Jn.count s.size⟩) : OpenIn Dev w w2 B d v' D (L ++ [toL s]) (e + 1 + Jn.count s.size) := by
  have hb : Below w.heap.size w w2 := h.below.trans (ha.only.toBelow (fun k hk hx => by
    rcases hx with rfl | hx
    · omega
    · have := (h.at'.es.lt k hx).1; omega) h.below.size)
  refine ⟨ha.at', Mbelow M hd hb, ?_, hb⟩
  have hs := Jn.Recs.snoc h.recs (by rw [Nat.zero_add]; exact hr)
  rw [toL_length] at hs
  exact hs
end

set_option maxHeartbeats 2000000 in
set_option maxRecDepth 100000 in
theorem open_any {Dev : World → (Nat → Prop) → Value → Disk → Prop} (M : Means Dev) (w : World) (B : Nat → Prop) (d : Value) (D : Disk) (h : Dev w B d D) (hK : JK w) :
    Calls Tryz.prog 18 #[d] w fun e w' => ∃ v L a, e = .returned (.pointer (some ⟨w.heap.size, 0, none⟩)) ∧ Jr.JAt w' w.heap.size w.heap.size d v ⟨L, a⟩ ∧ Jn.Opened D L a ∧ Below w.heap.size w w' := by
  have H0 := Kept.mk (open_start M h)
  have HDEV := Kept.mk h
  have HK := Kept.mk hK
  obtain ⟨dp, rfl⟩ := M.ptr h
  have hbd : ∀ W : World, (Instr.build 63 #[(0, .pointer (some dp))]).run Tryz.prog W = .ok (.agg #[.pointer (some dp), .slice none 0 0, .int .i64 0]) W := fun W => by kernel_rfl
  clear h hK
  go_enter Tryz.func18, Tryz.ntmps18
  go_wp2
  generalize w.alloc (.cells #[.pointer (some dp), .slice none 0 0, .int .i64 0] 63) = w0 at H0 ⊢
  go_loopg [4, 5] 5000 (fun k x y wr => ∃ v L a, k + a = 5000 ∧ Kept (OpenIn Dev w wr B (.pointer (some dp)) v D L a))
  case atStart => exact ⟨_, [], 0, rfl, H0⟩
  case round =>
    obtain ⟨v, L, a, hk, HI⟩ := hrel
    obtain ⟨A, m, hv⟩ := HI.out.at'.es.len
    rw [List.length_map] at hv
    subst hv
    have HLE := Kept.mk (HI.out.le M)
    have HK2 : Kept (JK wr) := ⟨HK.out.below HI.out.below⟩
    have HKk := Kept.mk hk
    clear hk hbd
    have hSt : Calls Tryz.prog 38 #[.pointer (some ⟨w.heap.size, 0, none⟩)] wr (StPost D a L.length wr) := by
      by_cases hlt : a < D.S.length
      · exact stored_in M wr B w.heap.size w.heap.size dp L a D A m ⟨HI.out.at', HI.out.dev⟩ HK2.out hlt HLE.out.2.1
      · exact stored_out M wr B w.heap.size w.heap.size dp L a D A m ⟨HI.out.at', HI.out.dev⟩ (by have := HLE.out; omega)
    have HSt := Kept.mk hSt
    clear hSt
    go_wp2_with (go_at_call 38
                 refine HSt.out.mono ?_
                 rintro e w1 ⟨t, bb, rfl, hb, hR⟩
                 have H1 := Kept.mk (HI.out.on M hb)
                 clear hb
                 rcases hR.out with ⟨rfl, hrec⟩ | ⟨rfl, hno⟩)
    · have HR := Kept.mk hrec
      have hts : t.size ≤ 100000 := by rw [← toL_length]; exact hrec.few
      have hrm : a + 1 + Jn.count t.size ≤ 4096 := by have := hrec.room; rw [toL_length] at this; have := HLE.out; omega
      have hln : L.length + 1 ≤ 4096 := by have := HLE.out; omega
      have HAdd := Kept.mk (add_any w1 w.heap.size w.heap.size (.pointer (some dp)) A m L a H1.out.at' t hts hln hrm)
      have HRM := Kept.mk hrm
      clear hR hrec hts hrm hln
      go_wp2_with (go_at_call 39
                   refine HAdd.out.mono ?_
                   rintro e w2 ⟨rfl, v', ha⟩
                   have H2 := Kept.mk (H1.out.added M HDEV.out HR.out ha)
                   clear ha)
      go_roundg (gk - (1 + Jn.count t.size))
      case measure => have := HKk.out; have := HRM.out; omega
      case rel => exact ⟨_, L ++ [toL t], a + 1 + Jn.count t.size, by have := HKk.out; have := HRM.out; omega, H2⟩
    · go_wp2
      go_ret
      exact ⟨_, L, a, rfl, H1.out.at', ⟨H1.out.recs, hno⟩, H1.out.below⟩
end Pj
end Go.Proofs.YtmkpkmkhnphogaaGreatDoor
