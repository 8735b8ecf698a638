/- Files on blocks: Read of what is there. -/
import Derived.Test.YtejeadccpigepaaRead5
namespace Go.Proofs.Ytejeadccpigepaa.Ino
open Go.RowKit Go.Maps Go.Proofs.Ytejeadccpigepaa
set_option maxRecDepth 100000

attribute [-go_sem] Go.run_min_int2

theorem min_any {P : Program} (x y m : Int) (h : min x y = m) : ∀ (w : World) (ts : Array TypeId) (t : TypeId), (Builtin.min_ ts t #[.int .i64 x, .int .i64 y]).run P w = .ok (.int .i64 m) w := fun w ts t => by
  rw [Go.run_min_int2]
  congr 2
  split <;> omega

/-- A file's byte. -/
def fileB (S : Sto) (T : List Nat) (i : Nat) : UInt8 := (blkOf S T (i / 512)).getD (i % 512) 0

def fileL (S : Sto) (T : List Nat) (at_ m : Nat) : List UInt8 := (List.range m).map fun i => fileB S T (at_ + i)

theorem fileL_length (S : Sto) (T : List Nat) (a m : Nat) : (fileL S T a m).length = m := by simp [fileL]

/-- A piece of a block is a piece of the file. -/
theorem fileL_piece (S : Sto) (T : List Nat) (a d c k r : Nat) (hk : (a + d) / 512 = k) (hr : (a + d) % 512 = r) (hc : r + c ≤ 512) (hB : (blkOf S T k).length = 512) : fileL S T a (d + c) = fileL S T a d ++ ((blkOf S T k).drop r).take c := by
  unfold fileL
  rw [List.range_add, List.map_append, List.map_map]
  congr 1
  apply List.ext_getElem
  · simp only [List.length_map, List.length_range, List.length_take, List.length_drop, hB]; omega
  · intro i h1 h2
    simp only [List.length_map, List.length_range] at h1
    have e1 : (a + (d + i)) / 512 = k := by omega
    have e2 : (a + (d + i)) % 512 = r + i := by omega
    simp only [List.getElem_map, List.getElem_range, Function.comp_apply, fileB, e1, e2, List.getElem_take, List.getElem_drop, List.getD_eq_getElem?_getD]
    rw [List.getElem?_eq_getElem (by omega)]
    rfl

structure RdR (w w3 : World) (S : Sto) (T : List Nat) (a m : Nat) (iv : Value) (wr : World) : Prop where
  ex : ∃ d : Nat, d ≤ m ∧ iv = .int .i64 (d : Int) ∧ Row wr 5 1 (.slice (some ⟨w.heap.size, 0, none⟩) m m) m (bcells (fileL S T a d ++ List.replicate (m - d) 0)) ∧ Keep (fun x => x = w.heap.size) w3 wr

theorem rd_splice {A X : List UInt8} {d c m : Nat} (hA : A.length = d) (hX : X.length = c) : Go.splice (bcells (A ++ List.replicate (m - d) 0)) d (bcells X) = bcells (A ++ X ++ List.replicate (m - (d + c)) 0) := by
  have h1 : (bcells A).length = d := by rw [bcells_length, hA]
  rw [bcells_append, Go.splice, List.take_append, List.take_of_length_le (by omega), h1, Nat.sub_self, List.take_zero, List.append_nil, List.drop_append, List.drop_eq_nil_of_le (by rw [h1]; omega), List.nil_append, h1, bcells_length, hX, Nat.add_sub_cancel_left, bcells_append, bcells_append, List.append_assoc]
  congr 2
  unfold bcells
  rw [← List.map_drop, List.drop_replicate]
  congr 2
  omega

set_option maxHeartbeats 1000000 in
theorem readf_any {w : World} {F : Nat → Prop} {p s : Nat} {S : Sto} {size : Nat} {T : List Nat} (h : IsFile w F p s S size T) (hH : Held S T) (at_ n : Nat) (hat : at_ < size) (hsz : size ≤ 102400) (m : Nat) (_hm : min n (size - at_) = m) :
    Calls Try.prog 28 #[.pointer (some ⟨p, 0, none⟩), .int .i64 (at_ : Int), .int .i64 (n : Int)] w fun e w' => ∃ v, e = .returned (.tuple #[v, .nilIface]) ∧ Row w' 5 1 v m (bcells (fileL S T at_ m)) ∧ Keep (fun _ => False) w w' := by
  have HW := Lib.hid (works_any h)
  have c0 := h.cell 1
  simp only [List.getElem?_cons_succ, List.getElem?_cons_zero] at c0
  have H := Lib.hid h; have HH := Lib.hid hH
  clear h hH
  have h1 : ¬ (size : Int) ≤ (at_ : Int) := by omega
  have h2 : ¬ (at_ : Int) < 0 := by omega
  have h3 : ¬ (n : Int) < 0 := by omega
  have hmin := min_any (P := Try.prog) (n : Int) ((size : Int) - (at_ : Int)) (m : Int) (by omega)
  have hm2 : m ≤ 102400 ∧ at_ + m ≤ size := by omega
  clear _hm
  obtain ⟨i, z, hi, hz, hs, hby, hzc⟩ : ∃ (it : TypeInfo) (z : Value), Try.prog.info? 5 = some it ∧ it.zero = some z ∧ it.size = 1 ∧ it.bytes = 1 ∧ z.cells = #[.int .u8 0] := by
    have h : (Try.prog.info? 5).bind (fun it => it.zero.map fun z => (it.size, it.bytes, z.cells)) = some (1, 1, #[.int .u8 0]) := by kernel_rfl
    obtain ⟨it, h1, h2⟩ := Option.bind_eq_some_iff.1 h
    obtain ⟨z, h3, h4⟩ := Option.map_eq_some_iff.1 h2
    simp only [Prod.mk.injEq] at h4
    exact ⟨it, z, h1, h3, h4.1, h4.2.1, h4.2.2⟩
  have HI := Lib.hid hi
  clear hi
  go_enter Try.func28, Try.ntmps28
  go_wp2_with (first | (go_at_call 37; refine HW.out.mono ?_; rintro e w1 ⟨rfl, rfl⟩) | (refine wpList_make_row rfl _ _ rfl Try.underlying71 HI.out hz hs hby m rfl rfl rfl rfl (by omega) (by unfold maxLen; omega) ?_; intro w3 h3 k3 s3; have H3 := Lib.hid h3; have K3 := Lib.hid k3; have S3 := Lib.hid s3; clear h3 k3 s3))
  obtain ⟨Z, hzv, hz5, hz1, HZ⟩ := z512
  have HZV := Lib.hid hzv
  clear hzv
  have H30 : Hid (Row w3 5 1 (.slice (some ⟨w.heap.size, 0, none⟩) m m) m (bcells (fileL S T at_ 0 ++ List.replicate (m - 0) 0))) := Lib.hid (by
    have h := H3.out
    have e : (madeCells z.cells (m * 1)).toList = bcells (fileL S T at_ 0 ++ List.replicate (m - 0) 0) := by
      rw [hzc, toList_madeCells_one]
      simp [fileL, bcells]
    rw [e] at h
    exact h)
  go_loopw [9] (fun i wr => RdR w w3 S T at_ m i wr) (fun i _ => m - (intOf i).toNat)
  case atStart => exact ⟨0, by omega, rfl, H30.out, Keep.refl _ w3⟩
  case round =>
    obtain ⟨d, hd, rfl, hRr, hK⟩ := hrel.ex
    have HRr := Lib.hid hRr; have HK := Lib.hid hK
    clear hRr hK
    by_cases hlt : d < m
    · have hdd : decide ((d : Int) < (m : Int)) = true := by rw [decide_eq_true_eq]; omega
      obtain ⟨k, hkk⟩ : ∃ k, (at_ + d) / 512 = k := ⟨_, rfl⟩
      obtain ⟨r, hrr⟩ : ∃ r, (at_ + d) % 512 = r := ⟨_, rfl⟩
      have hq : ((at_ : Int) + (d : Int)) / 512 = (k : Int) := by omega
      have hmo : ((at_ : Int) + (d : Int)) % 512 = (r : Int) := by omega
      have hk2 : k < 203 := by omega
      have hr2 : r < 512 := by omega
      have HIR := Lib.hid ((H.out.keep0 K3.out).keep HK.out (by have := H.out.lt.2; omega) (fun x hx e => by have := H.out.lt.1 x hx; omega))
      have c1 := HIR.out.num k hk2
      have HGT := Lib.hid (getk_any HIR.out HH.out k)
      have HBL := Lib.hid (blkOf_len HIR.out HH.out k)
      have HKK := Lib.hid hkk; have HRR := Lib.hid hrr
      obtain ⟨B, hB⟩ : ∃ B, B = blkOf S T k := ⟨_, rfl⟩
      have HBB := Lib.hid hB
      rw [← hB] at HGT HBL
      generalize tg T k = num at *
      clear hB hkk hrr
      go_wp2_with (first | (go_at_call 38; refine HGT.out.mono ?_; rintro e w1 ⟨rfl, k1⟩; have K1 := Lib.hid k1; clear k1) | (refine wpList_var_blk HZV hz5 rfl rfl rfl _ _ rfl B HBL.out rfl rfl ?_))
      obtain ⟨c, hc⟩ : ∃ c, c = Nat.min (512 - r) (m - d) := ⟨_, rfl⟩
      have hc2 : c ≤ 512 - r ∧ c ≤ m - d ∧ 0 < c := by rw [hc]; refine ⟨Nat.min_le_left _ _, Nat.min_le_right _ _, ?_⟩; exact Nat.lt_min.2 ⟨by omega, by omega⟩
      obtain ⟨X, hX⟩ : ∃ X, X = (B.drop r).take c := ⟨_, rfl⟩
      have hXl : X.length = c := by rw [hX, List.length_take, List.length_drop, HBL.out]; omega
      have H8 : Hid ((w1.alloc (.cells (blkC B) 85)).heap[w1.heap.size]? = some (.cells (blkC B) 85 (0, 0))) := Lib.hid (heap_alloc_new w1 _)
      have K8 : Hid (Keep (fun _ => False) wr (w1.alloc (.cells (blkC B) 85)).drew) := Lib.hid (K1.out.alloc _).drew
      have hsl := fun w => slBlkLo w1.heap.size r hr2 w
      generalize w1.alloc (.cells (blkC B) 85) = w8 at *
      have HR8 := Lib.hid (HRr.out.keep K8.out (fun _ _ h => h))
      have hcp : (Builtin.copy_ #[71, 71] 3 #[.slice (some ⟨w.heap.size, d, none⟩) (m - d) (m - d), .slice (some ⟨w1.heap.size, r, none⟩) (512 - r) (512 - r)]).run Try.prog w8.drew = .ok (.int .i64 (c : Int)) (w8.drew.setCells w.heap.size d (bcells X)) := by
        have h := run_copy_cells (P := Try.prog) w8.drew 71 71 3 5 w.heap.size d (m - d) (m - d) ⟨w1.heap.size, r, none⟩ (512 - r) (512 - r) (bcells X) Try.underlying71 Try.infoU1 (by rw [bcells_length, hXl, hc]) (fun j v hv => ?_) (fun j hj => ?_) (fun j hj => ?_) (bcells_one X)
        · rw [bcells_length, hXl] at h
          exact h
        · rw [add_off]
          have hj : j < X.length := by rw [← bcells_length X]; exact (List.getElem?_eq_some_iff.1 hv).1
          show w8.cell? _ = _
          rw [cell_of_row _ _ _ _ _ _ H8.out, blkC, List.getElem?_toArray, ← hv, hX]
          simp only [bcells, List.getElem?_map, List.getElem?_take, List.getElem?_drop]
          rw [if_pos (by omega)]
        · rw [bcells_length] at hj
          have := (HR8.out.there (d + j) (by omega)).1
          simpa using this
        · rw [bcells_length] at hj
          have := (HR8.out.there (d + j) (by omega)).2
          simpa using this
      have HX := Lib.hid hX
      clear hX hc
      go_region
      have hrow := HR8.out.setCells d (bcells X) (by rw [bcells_length, hXl]; omega)
      rw [Nat.zero_add, rd_splice (fileL_length S T at_ d) hXl, HX.out, HBB.out, ← fileL_piece S T at_ d c k r HKK.out HRR.out (by omega) (HBB.out ▸ HBL.out), ← HBB.out, ← HX.out] at hrow
      have HROW := Lib.hid hrow
      have K9 : Keep (fun x => x = w.heap.size) w3 (w8.drew.setCells w.heap.size d (bcells X)) := keep_setCells _ _ _ _ (HK.out.trans K8.out (fun _ h => h.elim)) (.inl rfl)
      go_roundw
      case rel => (repeat apply Exists.intro); exact ⟨⟨d + c, by omega, by go_num, HROW.out, K9⟩, rfl⟩
      case measure => simp [intOf]; omega
    · have hdd : decide ((d : Int) < (m : Int)) = false := by rw [decide_eq_false_iff_not]; omega
      obtain rfl : d = m := by omega
      have hdd : ¬ (d : Int) < (d : Int) := by omega
      clear hlt
      go_wp2_with fail
      go_ret2
      have h := HRr.out
      rw [Nat.sub_self, List.replicate_zero, List.append_nil] at h
      exact ⟨_, rfl, h, K3.out.trans HK.out (fun x e => .inr (by omega))⟩

end Go.Proofs.Ytejeadccpigepaa.Ino
