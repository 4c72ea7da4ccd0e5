/-
  The state behind one block.
-/
import Derived.Test.YtojncfnlcmacgaaDoorSched
import Derived.Laws.CopyOwn
namespace Go.Proofs.YtojncfnlcmacgaaDoor
open Go.RowKit
namespace Sha

/-- The table of constants lies where the program has it. -/
def Tab (w : World) : Prop := 0 < w.heap.size ∧ ∀ i, i < 64 → w.cell? ⟨0, i, none⟩ = some (.int .u32 (ks.getD i 0).toNat)
theorem Tab.below {w w' : World} (h : Tab w) (hb : Below w.heap.size w w') : Tab w' :=
  ⟨by have := hb.size; have := h.1; omega, fun i hi => (hb.cell (p := ⟨_, i, none⟩) h.1).trans (h.2 i hi)⟩

/-- Inside compress, behind schedule: w1 the world that schedule left. -/
structure Mid (w w1 wr : World) (s : St) (ws : List UInt32) (v : St) : Prop where
  below : Below w.heap.size w wr
  box : Lies wr w.heap.size 28 s.list
  res : Lies wr (w.heap.size + 1) 28 (List.replicate 8 0)
  words : Lies wr w1.heap.size 39 ws
  cur : Lies wr (w1.heap.size + 1) 28 v.list
theorem Mid.drew {w w1 wr : World} {s v : St} {ws : List UInt32} (h : Mid w w1 wr s ws v) : Mid w w1 wr.drew s ws v := ⟨h.below.drew, h.box, h.res, h.words, h.cur⟩
theorem Mid.again {w w1 wr : World} {s v : St} {ws : List UInt32} (h : Mid w w1 wr s ws v) {X : World → Prop} (k : ∀ W, Mid w w1 W s ws v → X W) : X wr.drew := k _ h.drew
theorem Mid.cells {w w1 wr : World} {s : St} {ws : List UInt32} {a b c d e f g h : UInt32} (m : Mid w w1 wr s ws ⟨a, b, c, d, e, f, g, h⟩) :
    wr.cell? ⟨w1.heap.size + 1, 0, none⟩ = some (.int .u32 a.toNat) ∧ wr.cell? ⟨w1.heap.size + 1, 1, none⟩ = some (.int .u32 b.toNat) ∧ wr.cell? ⟨w1.heap.size + 1, 2, none⟩ = some (.int .u32 c.toNat) ∧
    wr.cell? ⟨w1.heap.size + 1, 4, none⟩ = some (.int .u32 e.toNat) ∧ wr.cell? ⟨w1.heap.size + 1, 5, none⟩ = some (.int .u32 f.toNat) ∧ wr.cell? ⟨w1.heap.size + 1, 6, none⟩ = some (.int .u32 g.toNat) ∧
    wr.cell? ⟨w1.heap.size + 1, 7, none⟩ = some (.int .u32 h.toNat) :=
  ⟨m.cur.cell 0 (by show _ < 8; omega), m.cur.cell 1 (by show _ < 8; omega), m.cur.cell 2 (by show _ < 8; omega), m.cur.cell 4 (by show _ < 8; omega), m.cur.cell 5 (by show _ < 8; omega), m.cur.cell 6 (by show _ < 8; omega), m.cur.cell 7 (by show _ < 8; omega)⟩
theorem Mid.shift {w w1 wr : World} {s v m : St} {ws : List UInt32} (h : Mid w w1 wr s ws v) (hz : w.heap.size + 2 ≤ w1.heap.size) {cs : Array Value} (hc : cs = cellsOf m.list)
    {X : World → Prop} (k : ∀ W, Mid w w1 W s ws m → X W) : X (wr.setRow (w1.heap.size + 1) cs) :=
  k _ ⟨Sha.below_setRow h.below (by omega) _, h.box.rowFar (by omega) _, h.res.rowFar (by omega) _, h.words.rowFar (by omega) _, h.cur.row2 hc⟩
theorem Mid.step {w w1 wr : World} {s v m : St} {ws : List UInt32} (h : Mid w w1 wr s ws v) (hz : w.heap.size + 2 ≤ w1.heap.size) (x y : UInt32) (p q : Int)
    (hp : p = x.toNat) (hq : q = y.toNat) (hm : (v.list.set 4 x).set 0 y = m.list) :
    Mid w w1 ((wr.setCell ⟨w1.heap.size + 1, 4, none⟩ (.int .u32 p)).setCell ⟨w1.heap.size + 1, 0, none⟩ (.int .u32 q)) s ws m := by
  refine ⟨(h.below.setCell (by simp; omega) _).setCell (by simp; omega) _, (h.box.far (by simp; omega) _).far (by simp; omega) _, (h.res.far (by simp; omega) _).far (by simp; omega) _,
    (h.words.far (by simp) _).far (by simp) _, ?_⟩
  rw [← hm]
  exact (h.cur.put2 4 x p hp).put2 0 y q hq
theorem sum6 (d h m c k w : UInt32) : ((d.toNat : Int) + ((h.toNat : Int) + (m.toNat : Int) + (c.toNat : Int) + (k.toNat : Int) + (w.toNat : Int))) % 4294967296 = ((d + (h + m + c + k + w)).toNat : Int) := by
  simp only [UInt32.toNat_add]; omega
theorem sum7 (h m c k w a b : UInt32) : ((h.toNat : Int) + (m.toNat : Int) + (c.toNat : Int) + (k.toNat : Int) + (w.toNat : Int) + ((a.toNat : Int) + (b.toNat : Int))) % 4294967296 = ((h + m + c + k + w + (a + b)).toNat : Int) := by
  simp only [UInt32.toNat_add]; omega

/-- The first k words of l with those of m added. -/
def add1 (l m : List UInt32) : Nat → List UInt32
  | 0 => l
  | k + 1 => (add1 l m k).set k ((add1 l m k).getD k 0 + m.getD k 0)
theorem add1_length (l m : List UInt32) : ∀ k, (add1 l m k).length = l.length
  | 0 => rfl
  | k + 1 => by simp [add1, add1_length l m k]
/-- Inside compress, behind its rounds. -/
structure End (w w1 wr : World) (l m : List UInt32) : Prop where
  below : Below w.heap.size w wr
  box : Lies wr w.heap.size 28 l
  res : Lies wr (w.heap.size + 1) 28 (List.replicate 8 0)
  cur : Lies wr (w1.heap.size + 1) 28 m
theorem End.put {w w1 wr : World} {l m : List UInt32} (h : End w w1 wr l m) (hz : w.heap.size + 2 ≤ w1.heap.size) (k : Nat) (x : UInt32) (n : Int) (hn : n = x.toNat) :
    End w w1 ((wr.setCell ⟨w.heap.size, k, none⟩ (.int .u32 n)).drew) (l.set k x) m :=
  ⟨(h.below.setCell (by simp) _).drew, h.box.put2 k x n hn, h.res.far (by simp) _, h.cur.far (by simp; omega) _⟩

set_option maxRecDepth 100000 in
set_option maxHeartbeats 1000000 in
theorem comp_aux (st : St) (s : ByteArray) (ws : List UInt32) (w : World) (hS : ∀ w, Calls Tryd.prog 19 #[.string s] w fun e w' => e = .returned (.agg (cellsOf ws)) ∧ Below w.heap.size w w')
    (hl : ws.length = 64) (hK : Tab w) :
    Calls Tryd.prog 15 #[.agg (cellsOf st.list), .string s] w fun e w' => e = .returned (.agg (cellsOf (plus st (rounds ws st 64)).list)) ∧ Below w.heap.size w w' := by
  generalize hfin : rounds ws st 64 = fin
  have HF := Lib.hid (show ∀ n, n = 64 → rounds ws st n = fin from fun n h => by rw [h, hfin])
  have H := Lib.hid hS
  have HK := Lib.hid hK
  clear hS hK hfin
  have i28 : (Tryd.prog.info? 28).map (·.size) = some (cellsOf st.list).size := by rw [size_cellsOf]; kernel_rfl
  have I28 := Lib.hid i28
  have i39 : (Tryd.prog.info? 39).map (·.size) = some (cellsOf ws).size := by rw [size_cellsOf, hl]; kernel_rfl
  have I39 := Lib.hid i39
  have HL := Lib.hid hl
  have o39 : (cellsOf (List.replicate 64 0)).size = (cellsOf ws).size := by rw [size_cellsOf, size_cellsOf, hl]; rfl
  have O39 := Lib.hid o39
  clear i28 i39 o39 hl
  go_enter Tryd.func15, Tryd.ntmps15
  go_wp2_with fail
  refine (H.out _).mono ?_
  rintro e w1 ⟨rfl, hb⟩
  simp only []
  have b1 : Lies w1 w.heap.size 28 st.list := ((Lies.made rfl rfl).alloc _).below hb (by simp; omega)
  have b2 : Lies w1 (w.heap.size + 1) 28 (List.replicate 8 0) := (Lies.made (by kernel_rfl) (by simp)).below hb (by simp)
  have hz : w.heap.size + 2 ≤ w1.heap.size := by have := hb.size; simpa using this
  have hB : Below w.heap.size w w1 := (((Below.refl _ _).alloc (Nat.le_refl _) _).alloc (by simp) _).trans (hb.mono (by simp; omega))
  clear hb
  have HB := Lib.hid hB
  have HZ := Lib.hid hz
  clear hB hz
  go_wp2_with (first
    | (refine wpList_store_row rfl 39 _ _ rfl _ _ rfl rfl _ _ (Lies.made (by kernel_rfl) rfl) I39.out O39.out (one_cellsOf _) ?_)
    | (refine wpList_load_row rfl 28 _ rfl _ rfl _ _ _ _ ((b1.alloc _).rowFar (by have := HZ.out; omega) _) Tryd.underlying28 rfl I28.out ?_)
    | (refine wpList_store_row rfl 28 _ _ rfl _ _ rfl rfl _ _ (Lies.made (l := List.replicate 8 0) (by kernel_rfl) (by simp)) I28.out rfl (one_cellsOf _) ?_))
  go_loopw [14] (fun x wr => ∃ n : Nat, n ≤ 64 ∧ x = .int .i64 n ∧ Mid w w1 wr st ws (rounds ws st n)) (fun x _ => 64 - (intOf x).toNat)
  case atStart =>
    have hz := HZ.out
    refine ⟨0, by omega, rfl, ?_, ?_, ?_, ?_, ?_⟩
    · exact Sha.below_setRow ((Sha.below_setRow (HB.out.alloc (by omega) _) (by omega) _).alloc (by simp; omega) _) (by omega) _
    · exact (((b1.alloc _).rowFar (by omega) _).alloc _).rowFar (by omega) _
    · exact (((b2.alloc _).rowFar (by omega) _).alloc _).rowFar (by omega) _
    · exact (((Lies.made (l := List.replicate 64 0) (by kernel_rfl) rfl).row ws).alloc _).rowFar (by omega) _
    · exact (Lies.made (l := List.replicate 8 0) (by kernel_rfl) (by simp)).row _
  case round =>
    clear b1 b2
    obtain ⟨n, hn, rfl, hM⟩ := hrel
    by_cases hlt : n < 64
    · have HQ : Hid (∃ v, rounds ws st n = v) := ⟨_, rfl⟩
      have cw := hM.words.cell n (by rw [HL.out]; omega)
      have ck := (HK.out.below hM.below).2 n hlt
      obtain ⟨⟨a, b, c, d, e, f, g, h⟩, hq⟩ := HQ.out
      rw [hq] at hM
      have H2 := Lib.hid hq
      clear hq HQ
      obtain ⟨c0, c1, c2, c4, c5, c6, c7⟩ := hM.cells
      have a0 : (0 : Int) ≤ (n : Int) := by omega
      have a1 : (n : Int) < 64 := by omega
      have HM := Lib.hid hM
      clear hM
      generalize hW : ws.getD n 0 = W at *
      generalize hK : ks.getD n 0 = K at *
      have HW := Lib.hid hW
      have HKK := Lib.hid hK
      clear hW hK
      go_wp2
      refine wp_region_still_lit (by kernel_rfl) (by kernel_rfl) ?_
      repeat (first | still_step | still_call (turned (mixE_any _ _)) | still_call (turned (ch_any _ _ _ _)))
      refine wpStill_nil ?_
      refine HM.out.again (X := fun W => Exit.then _ _ _ _ W) ?_
      clear c0 c1 c2 c4 c5 c6 c7 cw ck HM
      intro W2 hM
      obtain ⟨c0, c1, c2, c4, c5, c6, c7⟩ := hM.cells
      have HM := Lib.hid hM
      clear hM
      go_wp2
      refine wp_region_still_lit (by kernel_rfl) (by kernel_rfl) ?_
      repeat (first | still_step | still_call (turned (mixA_any _ _)) | still_call (turned (maj_any _ _ _ _)))
      refine wpStill_nil ?_
      refine HM.out.again (X := fun W => Exit.then _ _ _ _ W) ?_
      clear c0 c1 c2 c4 c5 c6 c7 HM
      intro W3 hM
      have HM := Lib.hid hM
      clear hM
      go_wp2
      refine wp_region_still_tail 2 (by kernel_rfl) (by kernel_rfl) ?_
      simp only [List.take_succ_cons, List.take_zero, List.drop_succ_cons, List.drop_zero]
      repeat still_step
      refine wpStill_nil ?_
      refine HM.out.again (X := fun W => wpList _ _ _ _ _ W) ?_
      clear HM
      intro W4 hM
      refine wpList_copy_own rfl _ _ 32 32 rfl 27 Tryd.underlying32 (by kernel_rfl) _ _ _ _ _ _ _ (by rfl) (by rfl) _ _ hM.cur (List.map val (List.take 7 (St.mk a b c d e f g h).list)) (by rfl) (hM.cur.src 7) (by rw [size_cellsOf]; show _ ≤ 8; simp [St.list]) (by intro v hv; obtain ⟨x, _, rfl⟩ := List.mem_map.1 hv; rfl) ?_
      refine hM.shift HZ.out (m := ⟨a, a, b, c, d, e, f, g⟩) (by rfl) (X := fun W => wpList _ _ _ _ _ W) ?_
      clear hM
      intro W5 hM
      obtain ⟨c0, c1, c2, c4, c5, c6, c7⟩ := hM.cells
      have f0 := hM.cur.free 0
      have f4 := hM.cur.free 4
      have HM := Lib.hid hM
      clear hM c1 c2 c5 c6 c7
      go_wp2
      go_roundw
      case rel =>
        refine ⟨n + 1, by omega, by go_num, ?_⟩
        have E1 : rounds ws st (n + 1) = Sha.step ⟨a, b, c, d, e, f, g, h⟩ K W := by
          show Sha.step (rounds ws st n) (ks.getD n 0) (ws.getD n 0) = _
          rw [H2.out, HW.out, HKK.out]
        rw [E1]
        exact HM.out.step HZ.out (d + (h + mixE e + ch e f g + K + W)) ((h + mixE e + ch e f g + K + W) + (mixA a + maj a b c)) _ _ (sum6 _ _ _ _ _ _) (sum7 _ _ _ _ _ _ _) rfl
      case measure => simp [intOf]; omega
    · have h64 : n = 64 := by omega
      have H64 := Lib.hid h64
      clear h64
      have hE : End w w1 wr (add1 st.list (rounds ws st n).list 0) (rounds ws st n).list := ⟨hM.below, hM.box, hM.res, hM.cur⟩
      have HE := Lib.hid hE
      clear hM hE
      go_wp2
      clear hlt hn
      generalize hq : rounds ws st n = q at *
      have HQ := Lib.hid hq
      clear hq
      obtain ⟨wo, rfl⟩ : ∃ wo : World, wo = wr := ⟨_, rfl⟩
      go_loopw [63] (fun x wr => ∃ k : Nat, k ≤ 8 ∧ x = .int .i64 k ∧ End w w1 wr (add1 st.list q.list k) q.list) (fun x _ => 8 - (intOf x).toNat)
      case atStart => exact ⟨0, by omega, rfl, HE.out⟩
      case round =>
        clear HE
        obtain ⟨k, hk, rfl, hM⟩ := hrel
        by_cases hlt : k < 8
        · have c1 := hM.box.cell k (by rw [add1_length]; exact hlt)
          have c2 := hM.cur.cell k hlt
          have f1 := hM.box.free k
          have a0 : (0 : Int) ≤ (k : Int) := by omega
          have a1 : (k : Int) < 8 := by omega
          have HM := Lib.hid hM
          clear hM
          go_wp2
          refine wp_region_still_tail 8 (by kernel_rfl) (by kernel_rfl) ?_
          simp only [List.take_succ_cons, List.take_zero, List.drop_succ_cons, List.drop_zero]
          repeat still_step
          refine wpStill_nil ?_
          go_wp2
          go_roundw
          case rel =>
            refine ⟨k + 1, by omega, by go_num, ?_⟩
            exact HM.out.put HZ.out k _ _ (by simp only [List.getD_eq_getElem?_getD]; exact b_add _ _)
          case measure => simp [intOf]; omega
        · have h8 : k = 8 := by omega
          subst h8
          have hE : End w w1 wr (plus st q).list q.list := hM
          have HI : (Tryd.prog.info? 28).map (·.size) = some (cellsOf (plus st q).list).size := I28.out
          have I := Lib.hid HI
          clear hM HI
          go_wp2_with (first
            | (refine wpList_load_row rfl 28 _ rfl _ rfl _ _ _ _ hE.box Tryd.underlying28 rfl I.out ?_)
            | (refine wpList_store_row rfl 28 _ _ rfl _ _ rfl rfl _ _ hE.res I.out (by rw [size_cellsOf, size_cellsOf]; rfl) (one_cellsOf _) ?_))
          refine bodyPost_ret (v := .agg (cellsOf (plus st q).list)) (results_cell_row rfl _ _ _ _ _ _ _ rfl (hE.res.row _) Tryd.underlying28 rfl I.out) rfl ⟨?_, ?_⟩
          · rw [← HQ.out, HF.out n H64.out]
          · exact Sha.below_setRow hE.below (by omega) _
theorem comp_any (st : St) (s : ByteArray) (w : World) (hs : s.size = 64) (hK : Tab w) :
    Calls Tryd.prog 15 #[.agg (cellsOf st.list), .string s] w fun e w' => e = .returned (.agg (cellsOf (compress st s.data.toList).list)) ∧ Below w.heap.size w w' :=
  comp_aux st s (sched s.data.toList) w (fun w => sched_any s w hs) (sched2_length _ _) hK
end Sha
end Go.Proofs.YtojncfnlcmacgaaDoor
