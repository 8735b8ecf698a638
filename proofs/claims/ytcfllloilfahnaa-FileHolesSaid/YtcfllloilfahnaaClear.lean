/- Files on blocks: cleared. -/
import Derived.Test.YtcfllloilfahnaaCut
namespace Go.Proofs.Ytcfllloilfahnaa.Ino
open Go.RowKit Go.Maps Go.Proofs.Ytcfllloilfahnaa
set_option maxRecDepth 100000

attribute [-go_sem] Go.run_max_int2

/-- What a part holds when it is cleared from a byte on. -/
def clrC (S : Sto) (T : List Nat) (n k : Nat) : Chg := ⟨k, blkOf S T k, over (blkOf S T k) (n - 512 * k) (List.replicate (512 - (n - 512 * k)) 0)⟩

/-- The changes by which zeros stand behind the first n bytes. -/
def clearedL (S : Sto) (T : List Nat) (n size : Nat) : List Chg := (List.range' (n / 512) ((size + 511) / 512 - n / 512)).map (clrC S T n)

section
variable {ops : Array Oper} {rest : List Oper} {o : Oper} {a : Act} {w : World} {Q : Exit → Act → World → Prop}

/-- What a change's block shall hold is cleared from a byte on. -/
theorem wpList_clear_chg (hg : o.guard = none) (d : Operand) (ho : o.op = .call { callee := .builtin .clear, args := #[d], argTypes := #[32] }) (g r k : Nat) (A B : List UInt8) (hA : A.length = 512) (hB : B.length = 512) (hr : r < 512)
    (hd : a.eval d = .slice (some ⟨g, 513 + r, none⟩) (512 - r) (512 - r)) {t : TypeId} (hS : w.heap[g]? = some (.cells (Chg.mk k A B).cells.toArray t (0, 0)))
    (h : ∀ w', w'.heap[g]? = some (.cells (Chg.mk k A (over B r (List.replicate (512 - r) 0))).cells.toArray t (0, 0)) → Keep (fun x => x = g) w w' → w'.heap.size = w.heap.size → wpList Try.prog ops Q rest (a.put o.dst (.tuple #[])) w') : wpList Try.prog ops Q (o :: rest) a w := by
  have hsz : (Chg.mk k A B).cells.length = 1025 := by simp [Chg.cells, bcells_length, hA, hB]
  have hrun := fun ty => Lib.run_clear_slice (P := Try.prog) w 32 5 ty (.int .u8 0) Try.underlying32 (fun w => by kernel_rfl) rfl rfl g (513 + r) (512 - r) (512 - r) (by omega) (fun j hj => by
    rw [cell_of_row _ _ _ _ _ _ hS, List.getElem?_toArray, List.getElem?_eq_getElem (by rw [hsz]; omega)]; rfl) (fun j hj => frozen_of_row _ _ _ _ _ hS)
  have hz : (List.replicate (512 - r) (.int .u8 0) : List Value) = bcells (List.replicate (512 - r) 0) := by simp [bcells]
  rw [hz] at hrun
  refine wpList_plain hg fun K hK => ?_
  unfold Oper.wp execOp
  simp only [ho, resolve, invoke, builtin, Sem.run_bind, Sem.run_pure, Result.andThen_ok, List.map_toArray, List.map_cons, List.map_nil, hd, hrun]
  obtain ⟨cur', h1, h2⟩ := splice_heap g (bcells (List.replicate (512 - r) 0)) (513 + r) w _ _ _ hS (by rw [bcells_length, List.length_replicate, List.size_toArray, hsz]; omega)
  have h3 : cur' = (Chg.mk k A (over B r (List.replicate (512 - r) 0))).cells.toArray := by
    rw [← Chg.splice k hA]
    apply Array.ext'
    rw [h2]
  rw [h3] at h1
  exact hK _ _ (h _ h1 (keep_setCells g _ _ _ (Keep.refl _ w) (.inl rfl)) (size_setCells g _ _ _))

end

structure ClrR (w : World) (S : Sto) (T : List Nat) (n pz : Nat) (iv lv : Value) (wr : World) : Prop where
  ex : ∃ k : Nat, n / 512 ≤ k ∧ k ≤ pz ∧ iv = .int .i64 (k : Int) ∧ ChgsAt wr lv ((List.range' (n / 512) (k - n / 512)).map (clrC S T n)) ∧ Keep (fun _ => False) w wr ∧ ∀ x, lv.ownBlock = some x → w.heap.size ≤ x

theorem clr_round {w wr w4 w6 : World} {S : Sto} {T : List Nat} {n pz k k0 r : Nat} {B : List UInt8} {lv v6 : Value} {ob : Obj} (_h0 : k0 = n / 512) (hk1 : n / 512 ≤ k) (hlt : k < pz) (hB : B = blkOf S T k) (hr : r = n - 512 * k) (HK : Keep (fun _ => False) w wr) (HO : ∀ x, lv.ownBlock = some x → w.heap.size ≤ x) (HKW : Keep (fun _ => False) wr w4)
    (H6 : ChgsAt w6 v6 ((List.range' (n / 512) (k - n / 512)).map (clrC S T n) ++ [⟨k, B, over B r (List.replicate (512 - r) 0)⟩])) (K6 : Keep (fun b => lv.ownBlock = some b) (w4.alloc ob) w6) (F6 : ∀ b, v6.ownBlock = some b → lv.ownBlock = some b ∨ ((w4.alloc ob).heap.size ≤ b ∧ b < w6.heap.size)) :
    ClrR w S T n pz (.int .i64 ((k : Int) + 1)) v6 w6 := by
  have h1 := HK.size
  have h2 := HKW.size
  refine ⟨k + 1, by omega, by omega, by go_num, ?_, ((HK.trans (HKW.alloc ob) (fun _ h => h.elim)).trans K6 (fun x e => .inr (HO x e))), fun x hx => ?_⟩
  · rw [show k + 1 - n / 512 = (k - n / 512) + 1 by omega, List.range'_concat, List.map_append, Nat.one_mul, show n / 512 + (k - n / 512) = k by omega, List.map_singleton, clrC, ← hB, ← hr]
    exact H6
  · rcases F6 x hx with h | h
    · exact HO x h
    · have := h.1; simp at this; omega

set_option maxHeartbeats 1000000 in
theorem cleared_any {w : World} {F : Nat → Prop} {p s : Nat} {S : Sto} {size : Nat} {T : List Nat} (h : IsFile w F p s S size T) (hH : Held S T) (n : Nat) (hn : n < size) (hs : size ≤ 102400) :
    Calls Try.prog 27 #[.pointer (some ⟨p, 0, none⟩), .int .i64 (n : Int)] w fun e w' => ∃ lv, e = .returned (.tuple #[lv, .nilIface]) ∧ ChgsAt w' lv (clearedL S T n size) ∧ Keep (fun _ => False) w w' ∧ ∀ x, lv.ownBlock = some x → w.heap.size ≤ x := by
  have H := Lib.hid h; have HH := Lib.hid hH
  obtain ⟨Z, hzv, hz5, hz1, HZ⟩ := z512
  have HZV := Lib.hid hzv
  clear h hH hzv
  obtain ⟨pz, hpz⟩ : ∃ pz, pz = (size + 511) / 512 := ⟨_, rfl⟩
  obtain ⟨k0, hk0⟩ : ∃ k0, k0 = n / 512 := ⟨_, rfl⟩
  have hq : (n : Int) / 512 = (k0 : Int) := by omega
  have hk0p : k0 < pz := by omega
  have hp2 : pz ≤ 200 := by omega
  have HPZ := Lib.hid hpz; have HK0 := Lib.hid hk0
  have HPT : Hid (∀ w1 : World, Calls Try.prog 24 #[.int .i64 (size : Int)] w1 fun e w' => e = .returned (.int .i64 (pz : Int)) ∧ w1 = w') := Lib.hid (fun w1 => by rw [hpz]; exact parts_any size (by omega))
  clear hpz hk0
  go_enter Try.func27, Try.ntmps27
  go_wp2_with fail
  have hlo : ((k0 : Int)) = ((k0 : Nat) : Int) := rfl
  go_loopw [6, 7] (fun lv iv wr => ClrR w S T n pz iv lv wr) (fun _ iv _ => pz - (intOf iv).toNat)
  case atStart => exact ⟨k0, by have := HK0.out; omega, by omega, rfl, by rw [← HK0.out, Nat.sub_self]; exact ChgsAt.nil w, Keep.refl _ w, fun x hx => by simp [Value.ownBlock] at hx⟩
  case round =>
    obtain ⟨k, hk1, hk2, rfl, hC, hK, hO⟩ := hrel.ex
    have HC := Lib.hid hC; have HK := Lib.hid hK; have HO := Lib.hid hO
    clear hC hK hO
    have HIR := Lib.hid (H.out.keep0 HK.out)
    have c0 := HIR.out.cell 1
    simp only [List.getElem?_cons_succ, List.getElem?_cons_zero] at c0
    by_cases hlt : k < pz
    · have hd : decide ((k : Int) < (pz : Int)) = true := by rw [decide_eq_true_eq]; omega
      have c1 := HIR.out.num k (by omega)
      have HGT := Lib.hid (getk_any HIR.out HH.out k)
      have HBL := Lib.hid (blkOf_len HIR.out HH.out k)
      obtain ⟨B, hB⟩ : ∃ B, B = blkOf S T k := ⟨_, rfl⟩
      have HBB := Lib.hid hB
      rw [← hB] at HGT HBL
      generalize tg T k = num at *
      obtain ⟨r, hrr⟩ : ∃ r, r = n - 512 * k := ⟨_, rfl⟩
      have hr : r < 512 := by omega
      have hri : max 0 ((n : Int) - (k : Int) * 512) = (r : Int) := by omega
      have hmax : ∀ (w : World) (ts : Array TypeId) (t : TypeId), (Builtin.max_ ts t #[.int .i64 0, .int .i64 ((n : Int) - (k : Int) * 512)]).run Try.prog w = .ok (.int .i64 (r : Int)) w := fun w ts t => by
        rw [Go.run_max_int2]
        congr 2
        split <;> omega
      have HRR := Lib.hid hrr
      clear hB hrr hri
      have HOK : Hid (Chg.Ok ⟨k, B, over B r (List.replicate (512 - r) 0)⟩) := Lib.hid ⟨by simp only; omega, HBL.out, by simp only; rw [over_len (by rw [HBL.out, List.length_replicate]; omega), HBL.out]⟩
      have hsl := fun (g : Nat) (w : World) => slBlkAt g 513 r hr w
      go_wp2_with (first | (go_at_call 24; refine (HPT.out _).mono ?_; rintro e w9 ⟨rfl, rfl⟩) | (go_at_call 26; refine HGT.out.mono ?_; rintro e w1 ⟨rfl, k1⟩; have K1 := Lib.hid k1; clear k1) | (refine wpList_var_blk HZV hz5 rfl rfl rfl _ _ rfl B HBL.out rfl rfl ?_) | (refine wpList_load_blkC rfl _ rfl w1.heap.size _ (by rw [blkC_size, HBL.out]) rfl (heap_alloc_new w1 _) ?_) | (refine wpList_build_chg rfl _ _ _ rfl k B B HBL.out HBL.out rfl rfl rfl ?_) | (refine wpList_var_chg rfl rfl rfl _ _ rfl ⟨k, B, B⟩ ⟨by simp only; omega, HBL.out, HBL.out⟩ rfl rfl ?_) | (refine wpList_clear_chg rfl _ rfl (w1.heap.size + 1) r k B B HBL.out HBL.out hr rfl (by have := heap_alloc_new (w1.alloc (.cells (blkC B) 69)) (.cells (Chg.mk k B B).cells.toArray 86); simpa using this) ?_; intro w4 h4 k4 s4; have H4 := Lib.hid h4; have K4 := Lib.hid k4; have S4 := Lib.hid s4; have HKW : Hid (Keep (fun _ => False) wr w4) := Lib.hid (((K1.out.alloc _).alloc _).trans k4 (fun x e => .inr (by have := K1.out.size; omega))); clear h4 k4 s4) | (refine wpList_load_chg rfl _ rfl (w1.heap.size + 1) ⟨k, B, over B r (List.replicate (512 - r) 0)⟩ HOK.out rfl H4.out ?_) | (refine wpList_one_chg rfl _ rfl ⟨k, B, over B r (List.replicate (512 - r) 0)⟩ HOK.out rfl ?_) | (refine wpList_append_chgs rfl _ _ rfl rfl (HC.out.keep (HKW.out.alloc _) (fun _ _ h => h)) rfl (ChgsAt.made w4 _ HOK.out) (by simp only [List.length_singleton, List.length_map, List.length_range']; omega) ?_; intro v6 w6 h6 k6 f6; have H6 := Lib.hid h6; have K6 := Lib.hid k6; have F6 := Lib.hid f6; clear h6 k6 f6))
      have HN := Lib.hid (clr_round (n := n) (S := S) (T := T) HK0.out hk1 hlt HBB.out HRR.out HK.out HO.out HKW.out H6.out K6.out F6.out)
      go_roundw
      case rel => exact HN.out
      case measure => simp [intOf]; omega
    · have hd : decide ((k : Int) < (pz : Int)) = false := by rw [decide_eq_false_iff_not]; omega
      obtain rfl : k = pz := by omega
      clear hlt hrel
      have hd : ¬ (k : Int) < (k : Int) := by omega
      go_wp2_with (go_at_call 24; refine (HPT.out _).mono ?_; rintro e w9 ⟨rfl, rfl⟩)
      go_ret2
      have hC := HC.out
      refine ⟨_, rfl, ?_, HK.out, HO.out⟩
      rw [clearedL, ← HPZ.out]
      exact hC

end Go.Proofs.Ytcfllloilfahnaa.Ino
