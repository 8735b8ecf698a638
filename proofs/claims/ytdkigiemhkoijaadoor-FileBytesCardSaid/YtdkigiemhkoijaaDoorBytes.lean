/- Files on blocks: Bytes. -/
import Derived.Test.YtdkigiemhkoijaaDoorFirst
namespace Go.Proofs.YtdkigiemhkoijaaDoor.Ino
open Go.RowKit Go.Maps Go.Proofs.YtdkigiemhkoijaaDoor
set_option maxRecDepth 100000

def headsL : List Nat := [0, 1, 2, 3, 4, 5, 6, 7, 200, 202]
def headCells : List Value := headsL.map fun k : Nat => Value.int .i64 (k : Int)

/-- The variable heads lies there. -/
def HeadsAt (w : World) : Prop := w.rangeAt 0 0 headCells

def frontL (size : Nat) (T : List Nat) (i : Nat) : List UInt8 := le32 size ++ (headsL.take i).flatMap fun k => le32 (tg T k)

def bytesL (size : Nat) (T : List Nat) : List UInt8 := frontL size T 10 ++ List.replicate 20 0

theorem frontL_length (size : Nat) (T : List Nat) (i : Nat) (hi : i ≤ 10) : (frontL size T i).length = 4 + 4 * i := by
  unfold frontL
  rw [List.length_append, show ((headsL.take i).flatMap fun k => le32 (tg T k)) = pgL ((headsL.take i).map fun k => tg T k) by
    unfold pgL
    rw [List.map_take, ← List.map_take, List.flatMap_map], pgL_length, List.length_map, List.length_take]
  simp [le32, headsL]; omega

theorem frontL_step (size : Nat) (T : List Nat) {i k : Nat} (hk : headsL[i]? = some k) : frontL size T (i + 1) = frontL size T i ++ le32 (tg T k) := by
  unfold frontL
  rw [List.take_add_one, hk, List.flatMap_append, ← List.append_assoc]
  simp

/-- A number put into a row of bytes. -/
theorem put4_row {w : World} {g c n a x : Nat} {t : TypeId} {A B : List Value} (hx : x < 4294967296) (ha : A.length = a) (hB : 4 ≤ B.length) (h : Row w t 1 (.slice (some ⟨g, 0, none⟩) n c) n (A ++ B)) : Row (put4 w g a x) t 1 (.slice (some ⟨g, 0, none⟩) n c) n (A ++ (bcells (le32 x) ++ B.drop 4)) := by
  subst ha
  have h1 := ((((h.stored A.length (.int .u8 ((x : Int) % 256))).stored (A.length + 1) (.int .u8 ((x : Int) / 256 % 256))).stored (A.length + 2) (.int .u8 ((x : Int) / 65536 % 256))).stored (A.length + 3) (.int .u8 ((x : Int) / 16777216)))
  rw [show ∀ v, (A ++ B).set A.length v = A ++ B.set 0 v from fun v => set_behind A B 0 v, set_behind, set_behind, set_behind, le32_set hx hB] at h1
  unfold put4
  simpa using h1

theorem Row.sub {w : World} {t : TypeId} {g n c o : Nat} {xs : List Value} (h : Row w t 1 (.slice (some ⟨g, 0, none⟩) n c) n xs) (ho : o < n) : Row w t 1 (.slice (some ⟨g, o, none⟩) (n - o) (c - o)) (n - o) (xs.drop o) := by
  obtain ⟨h1, h2⟩ := h
  rcases h2 with ⟨h2, h3⟩ | ⟨g', off, cap, cur, lo, hi, h2, h3, h4, h5, h6, h7, h8⟩
  · omega
  · simp only [Value.slice.injEq, Option.some.injEq, Addr.mk.injEq, and_true, true_and] at h2
    obtain ⟨⟨rfl, rfl⟩, rfl⟩ := h2
    refine ⟨by rw [List.length_drop]; omega, .inr ⟨g, o, c - o, cur, lo, hi, rfl, h3, by omega, by omega, by omega, by omega, ?_⟩⟩
    rw [← h8]
    simp only [List.drop_zero, List.drop_take, Nat.mul_one]

theorem HeadsAt.keep {F : Nat → Prop} {w w' : World} (h : HeadsAt w) (k : Keep F w w') (hF : ¬ F 0) : HeadsAt w' := fun j v hv => by
  have := h j v hv
  exact (k.cell (b := 0) (World.block_lt_of_cell? _ _ this) hF _).trans this

theorem Tryd.infoHeads : (Tryd.prog.info? 65).map (·.size) = some 10 := by kernel_rfl

structure BytR (w : World) (g : Nat) (size : Nat) (T : List Nat) (iv : Value) (wr : World) : Prop where
  ex : ∃ i : Nat, i ≤ 10 ∧ iv = .int .i64 (i : Int) ∧ Row wr 5 1 (.slice (some ⟨g, 0, none⟩) 64 64) 64 (bcells (frontL size T i) ++ bcells (List.replicate (60 - 4 * i) 0)) ∧ Keep (fun _ => False) w wr

def headK (i : Nat) : Nat := headsL.getD i 0

theorem headK_at {i : Nat} (hi : i < 10) : headsL[i]? = some (headK i) ∧ headK i < 203 := by
  rcases (show i = 0 ∨ i = 1 ∨ i = 2 ∨ i = 3 ∨ i = 4 ∨ i = 5 ∨ i = 6 ∨ i = 7 ∨ i = 8 ∨ i = 9 by omega) with rfl | rfl | rfl | rfl | rfl | rfl | rfl | rfl | rfl | rfl <;> exact ⟨rfl, by decide⟩

theorem run_headIx {i : Nat} (hi : i < 10) (w : World) : (Instr.index 65 (.agg headCells.toArray) (.int .i64 (i : Int))).run Tryd.prog w = .ok (.int .i64 ((headK i : Nat) : Int)) w := by
  rcases (show i = 0 ∨ i = 1 ∨ i = 2 ∨ i = 3 ∨ i = 4 ∨ i = 5 ∨ i = 6 ∨ i = 7 ∨ i = 8 ∨ i = 9 by omega) with rfl | rfl | rfl | rfl | rfl | rfl | rfl | rfl | rfl | rfl <;> kernel_rfl

theorem wpList_index_heads {ops : Array Oper} {rest : List Oper} {o : Oper} {a : Act} {w : World} {Q : Exit → Act → World → Prop} (hg : o.guard = none) (x y : Operand) (ho : o.op = .index 65 x y) (i k : Nat) (hi : i < 10) (hk : k = headK i) (hx : a.eval x = .agg headCells.toArray) (hy : a.eval y = .int .i64 (i : Int))
    (h : wpList Tryd.prog ops Q rest (a.put o.dst (.int .i64 (k : Int))) w) : wpList Tryd.prog ops Q (o :: rest) a w := by
  subst hk
  refine wpList_plain hg fun K hK => ?_
  unfold Oper.wp execOp
  simp only [ho, hx, hy, Sem.run_bind, run_headIx hi w, Result.andThen_ok, Sem.run_pure]
  exact hK _ _ h

theorem byt_round {w wr : World} {g size x i : Nat} {T : List Nat} (hg : w.heap.size ≤ g) (hi : i < 10) (hx : x = tg T (headK i)) (hf : x < 4294967296) (hR : Row wr 5 1 (.slice (some ⟨g, 0, none⟩) 64 64) 64 (bcells (frontL size T i) ++ bcells (List.replicate (60 - 4 * i) 0))) (hK : Keep (fun _ => False) w wr) :
    BytR w g size T (.int .i64 ((i : Int) + 1)) (put4 wr g (4 + 4 * i) x) := by
  subst hx
  have h := put4_row (a := 4 + 4 * i) hf (by rw [bcells_length, frontL_length size T i (by omega)]) (by rw [bcells_length, List.length_replicate]; omega) hR
  refine ⟨i + 1, by omega, by go_num, ?_, hK.trans (put4_keep _ _ _ _) (fun x hx => .inr (by omega))⟩
  have e : bcells (frontL size T i) ++ (bcells (le32 (tg T (headK i))) ++ (bcells (List.replicate (60 - 4 * i) 0)).drop 4) = bcells (frontL size T (i + 1)) ++ bcells (List.replicate (60 - 4 * (i + 1)) 0) := by
    rw [frontL_step size T (headK_at hi).1, bcells_append, List.append_assoc]
    simp only [bcells, List.map_replicate, List.drop_replicate]
    rw [show 60 - 4 * (i + 1) = 60 - 4 * i - 4 by omega]
  rw [← e]; exact h

theorem bytes_any {w : World} {F : Nat → Prop} {p s : Nat} {S : Sto} {size : Nat} {T : List Nat} (h : IsFile w F p s S size T) (hh : HeadsAt w) (hs : size ≤ 102400) :
    Calls Tryd.prog 8 #[.pointer (some ⟨p, 0, none⟩)] w fun e w' => ∃ v, e = .returned v ∧ Row w' 5 1 v 64 (bcells (bytesL size T)) ∧ Keep (fun _ => False) w w' := by
  have HW := Lib.hid (works_any h)
  have H := Lib.hid h; have HH := Lib.hid hh
  have c1 := h.cell 1
  simp only [List.getElem?_cons_succ, List.getElem?_cons_zero] at c1
  obtain ⟨i0, hi0, hz0, hz1, hz2⟩ := info_parts Tryd.infoB
  have HZ := Lib.hid hi0
  clear h hh hi0
  go_enter Tryd.func8, Tryd.ntmps8
  go_wp2_with (first | (go_at_call 13; refine HW.out.mono ?_; rintro e w1 ⟨rfl, rfl⟩) | (refine wpList_make_row rfl _ _ rfl Tryd.underlying33 HZ.out hz0 hz1 hz2 64 rfl rfl rfl rfl (by omega) (by unfold maxLen; omega) ?_; intro w3 h3 k3 s3; have H3 := Lib.hid h3; have K3 := Lib.hid k3; have S3 := Lib.hid s3; have c2 : w3.cell? ⟨p, 1, none⟩ = some (.int .i64 (size : Int)) := (k3.cell (World.block_lt_of_cell? _ _ c1) (fun h => h) _).trans c1; clear h3 k3 s3))
  have HR0 : Hid (Row w3 5 1 (.slice (some ⟨w.heap.size, 0, none⟩) 64 64) 64 ([] ++ bcells (List.replicate 64 0))) := Lib.hid (by
    have h := H3.out
    rw [show (Value.int .u8 0).cells = #[.int .u8 0] from rfl, toList_madeCells_one] at h
    simpa [bcells] using h)
  refine (put32_any HR0.out (by omega) size (by omega)).mono ?_
  rintro e w4 ⟨rfl, hw4⟩
  have HR4 : Hid (Row w4 5 1 (.slice (some ⟨w.heap.size, 0, none⟩) 64 64) 64 (bcells (frontL size T 0) ++ bcells (List.replicate (60 - 4 * 0) 0))) := Lib.hid (by
    have h := put4_row (x := size) (a := 0) (by omega) rfl (by simp [bcells_length]) HR0.out
    rw [hw4]
    have e : ([] : List Value) ++ (bcells (le32 size) ++ (bcells (List.replicate 64 0)).drop 4) = bcells (frontL size T 0) ++ bcells (List.replicate (60 - 4 * 0) 0) := by
      simp [frontL, bcells]
    rw [← e]; exact h)
  have K4 : Hid (Keep (fun _ => False) w w4) := Lib.hid (by rw [hw4]; exact K3.out.trans (put4_keep _ _ _ _) (fun x hx => .inr (by omega)))
  clear hw4 c1 c2 H3 HR0
  have HH4 := Lib.hid (HH.out.keep K4.out (fun h => h))
  go_wp2_with (refine wpList_load_mid rfl 65 _ rfl 0 0 rfl headCells _ HH4.out Tryd.underlying65 rfl (by rw [show headCells.length = 10 from rfl]; exact Tryd.infoHeads) ?_)
  have hgs : w.heap.size ≤ w.heap.size := Nat.le_refl _
  go_loopw [18] (fun iv wr => BytR w w.heap.size size T iv wr) (fun iv _ => 10 - (intOf iv).toNat)
  case atStart => exact ⟨0, by omega, rfl, HR4.out, K4.out⟩
  case round =>
    obtain ⟨i, hi, rfl, hR, hK⟩ := hrel.ex
    have HRr := Lib.hid hR; have HK := Lib.hid hK
    clear hR hK hrel
    by_cases hlt : i < 10
    · have hd : decide ((i : Int) < 10) = true := by rw [decide_eq_true_eq]; omega
      obtain ⟨k, hk⟩ : ∃ k, k = headK i := ⟨_, rfl⟩
      have hk2 : k < 203 := by rw [hk]; exact (headK_at hlt).2
      have c1 := (H.out.keep0 HK.out).num k hk2
      have hfit : tg T k < 4294967296 := H.out.fit _ (tg_mem (by rw [H.out.len]; exact hk2))
      obtain ⟨x, hx⟩ : ∃ x, x = tg T k := ⟨_, rfl⟩
      rw [← hx] at c1 hfit
      have HRD := Lib.hid (byt_round hgs hlt (hk ▸ hx) hfit HRr.out HK.out)
      have HRDd := Lib.hid (byt_round hgs hlt (hk ▸ hx) hfit (HRr.out.drew) HK.out.drew)
      obtain ⟨o, ho⟩ : ∃ o, o = 4 + 4 * i := ⟨_, rfl⟩
      have e1 : 4 + 4 * (i : Int) = (o : Int) := by omega
      have HSB := Lib.hid (Row.sub (o := o) HRr.out.drew (by omega))
      have ho2 : o + 4 ≤ 64 := by omega
      rw [← ho] at HRDd
      have HKK := Lib.hid hk
      clear hx hk ho
      go_wp2_with (refine wpList_index_heads rfl _ _ rfl i k hlt HKK.out rfl rfl ?_)
      have hno : ¬ 64 = o := by omega
      have ho6 : (o : Int) ≤ 64 := by omega
      have hk6 : (k : Int) < 203 := by omega
      obtain ⟨m4, hm4⟩ : ∃ m4, m4 = 4 * i := ⟨_, rfl⟩
      have hw1 : IntKind.i64.wrap (4 * (i : Int)) = (m4 : Int) := by rw [IntKind.wrap_i64]; omega
      have hw2 : IntKind.i64.wrap (4 + (m4 : Int)) = (o : Int) := by rw [IntKind.wrap_i64]; omega
      clear hm4
      go_still_tail 11, (by kernel_rfl)
      change wpList _ _ _ _ _ wr.drew
      go_wp2_with (go_at_call 22; refine (put32_any HSB.out (by omega) x hfit).mono ?_; rintro e w9 ⟨rfl, rfl⟩)
      go_roundw
      case rel => exact HRDd.out
      case measure => first | (simp [intOf]; done) | (simp [intOf]; omega)
    · have hd : decide ((i : Int) < 10) = false := by rw [decide_eq_false_iff_not]; omega
      obtain rfl : i = 10 := by omega
      go_wp2
      go_ret
      refine ⟨_, rfl, ?_, HK.out⟩
      have h := HRr.out
      rw [← bcells_append] at h
      exact h

end Go.Proofs.YtdkigiemhkoijaaDoor.Ino
