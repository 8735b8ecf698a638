/- What bitmap's New, Take, Left, Bytes and Load do. -/
import Derived.Test.YtflfmcnbojphgaaBit
import Derived.Deep.MidRow
import Derived.Great.BuildSlice
import Derived.Lib.BufferMore
namespace Go.Proofs.Ytflfmcnbojphgaa
set_option maxRecDepth 100000
open Go.RowKit

theorem pop_any (c : UInt8) (w : World) : Calls Try.prog 19 #[.int .u8 (c.toNat : Int)] w fun e w' => e = .returned (.int .i64 (popc c : Int)) ∧ w = w' := by
  have hc := c.toNat_lt
  have e := pop_is c
  have hp := popc_le c
  have h0 : 0 ≤ (c.toNat : Int) := by omega
  have h1 : (c.toNat : Int) ≤ 255 := by omega
  generalize (c.toNat : Int) = x at *
  clear hc
  go_enter Try.func19, Try.ntmps19
  go_wp2
  go_ret
  exact ⟨rfl, rfl⟩

theorem gap_le (c : UInt8) : gap c ≤ 8 := all_u8 (p := fun c => gap c ≤ 8) (by decide +kernel) c

theorem ntz_any (c : UInt8) (x : Int) (hx : x = ((255 - c.toNat : Nat) : Int)) (w : World) : Calls Try.prog 20 #[.int .u8 x] w fun e w' => e = .returned (.int .i64 (gap c : Int)) ∧ w = w' := by
  have h0 : 0 ≤ x := by omega
  have h1 : x ≤ 255 := by omega
  have e : Lib.ntz8 x = (gap c : Int) := by rw [hx]; exact ntz_is c
  have hp := gap_le c
  clear hx
  go_enter Try.func20, Try.ntmps20
  go_wp2
  go_ret
  exact ⟨rfl, rfl⟩

theorem u8_not (c : UInt8) : bits .xor .u8 IntKind.u8.max (c.toNat : Int) = ((255 - c.toNat : Nat) : Int) :=
  all_u8 (p := fun c => bits .xor .u8 IntKind.u8.max (c.toNat : Int) = ((255 - c.toNat : Nat) : Int)) (by decide +kernel) c

theorem IsMap.range {w : World} {p n : Nat} {B : List UInt8} (h : IsMap w p n B) : w.rangeAt p 1 (bcells B) := by
  intro j v hv
  have hj : j < B.length := by have := (List.getElem?_eq_some_iff.1 hv).1; simpa [bcells_length] using this
  rw [h.byte j (by rw [← h.ok.len]; exact hj), ← bcells_get B j hj]
  exact hv

theorem Try.infoTaken : (Try.prog.info? 43).map (·.size) = some 512 := by kernel_rfl
theorem Try.infoU8 : (Try.prog.info? 5).map (·.size) = some 1 := by kernel_rfl

section
variable {ops : Array Oper} {rest : List Oper} {o : Oper} {a : Act} {w : World} {Q : Exit → Act → World → Prop}

/-- A byte of an array by value. -/
theorem wpList_index_taken (hg : o.guard = none) (x y : Operand) (ho : o.op = .index 43 x y) (B : List UInt8) (k : Nat) (hk : k < 512) (hB : B.length = 512) (c : UInt8) (hc : B.getD k 0 = c) (hx : a.eval x = .agg (bcells B).toArray) (hy : a.eval y = .int .i64 (k : Int))
    (h : wpList Try.prog ops Q rest (a.put o.dst (.int .u8 (c.toNat : Int))) w) : wpList Try.prog ops Q (o :: rest) a w := by
  subst hc
  refine wpList_plain hg fun K hK => ?_
  obtain ⟨i, hi, hsz⟩ := Option.map_eq_some_iff.1 Try.infoU8
  have hru : (sizeOf 5).run Try.prog w = .ok 1 w := by simp [sizeOf, run_typeInfo w hi, hsz]
  have hpl : Try.prog.plainKey 5 = true := by kernel_rfl
  have p1 := run_part_plain (P := Try.prog) w hpl (xs := (bcells B).toArray) (off := k * 1) (by rw [Nat.mul_one]; simp only [List.getElem?_toArray]; exact bcells_get B k (by omega))
  have h1 : (0 : Int) ≤ (k : Int) ∧ (k : Int) < ((512 : Nat) : Int) := by omega
  have hrun : (Instr.index 43 (.agg (bcells B).toArray) (.int .i64 (k : Int))).run Try.prog w = .ok (.int .u8 ((B.getD k 0).toNat : Int)) w := by
    simp only [Instr.index, asIntOf, Sem.run_bind, Sem.run_pure, Result.andThen_ok, run_underlying Try.underlying43, if_pos h1, hru, Int.toNat_natCast, p1]
  unfold Oper.wp execOp
  simp only [ho, hx, hy, Sem.run_bind, hrun, Result.andThen_ok, Sem.run_pure]
  exact hK _ _ h

end

set_option maxHeartbeats 1000000 in
theorem least_any {w : World} {p n : Nat} {B : List UInt8} (h : IsMap w p n B) :
    Calls Try.prog 14 #[.pointer (some ⟨p, 0, none⟩)] w fun e w' => (∃ i, e = .returned (.int .i64 (i : Nat)) ∧ IsLeast B i ∧ i ≤ 4096) ∧ w = w' := by
  have HR := Lib.hid h.range
  have HL := Lib.hid h.ok.len
  clear h
  go_enter Try.func14, Try.ntmps14
  go_wp2_with (refine wpList_load_mid rfl 43 _ rfl p 1 rfl (bcells B) _ HR.out Try.underlying43 rfl (by rw [bcells_length, HL.out]; exact Try.infoTaken) ?_)
  go_loop [9] (fun i => ∃ k : Nat, k ≤ 512 ∧ i = .int .i64 k ∧ FullTo B k) (fun i => 512 - (intOf i).toNat)
  case atStart => exact ⟨0, by omega, rfl, fun i hi => by omega⟩
  case round =>
    obtain ⟨k, hk, rfl, hF⟩ := hrel
    have HF := Lib.hid hF
    clear hF
    by_cases hlt : k < 512
    · obtain ⟨c, hcd⟩ : ∃ c, B.getD k 0 = c := ⟨_, rfl⟩
      have HCD := Lib.hid hcd
      clear hcd
      by_cases hc : c = 255
      · have HC : Hid (FullTo B (k + 1)) := Lib.hid (HF.out.step (by rw [HCD.out]; exact hc))
        have hn : ((c.toNat : Int) == 255) = true := by rw [hc]; rfl
        have hn' : ((c.toNat : Int) != 255) = false := by simp [bne, hn]
        clear hc
        go_wp2_with (refine wpList_index_taken rfl _ _ rfl B k hlt HL.out c HCD.out rfl rfl ?_)
        go_round
        case rel => exact ⟨k + 1, by omega, by go_num, HC.out⟩
        case measure => simp [intOf]; omega
      · have HC : Hid (IsLeast B (8 * k + gap c)) := Lib.hid (by rw [← HCD.out]; exact HF.out.least (by rw [HCD.out]; exact hc))
        have hg := (gap_is _ hc).1
        have hn : ((c.toNat : Int) == 255) = false := by
          have : c.toNat ≠ 255 := fun e => hc (UInt8.toNat_inj.1 e)
          simp; omega
        have hn' : ((c.toNat : Int) != 255) = true := by simp [bne, hn]
        have HN := Lib.hid (u8_not c)
        clear hc
        go_wp2_with (first | (refine wpList_index_taken rfl _ _ rfl B k hlt HL.out c HCD.out rfl rfl ?_) | (go_at_call 20; refine (ntz_any c _ HN.out _).mono ?_; rintro e w' ⟨rfl, rfl⟩))
        go_ret
        exact ⟨⟨8 * k + gap c, rfl, HC.out, by omega⟩, rfl⟩
    · obtain rfl : k = 512 := by omega
      go_wp2
      go_ret
      exact ⟨⟨4096, rfl, HF.out.all HL.out, by omega⟩, rfl⟩

def takeE (n i : Nat) : Value := if i < n then .tuple #[.int .i64 (i : Int), .nilIface] else .tuple #[.int .i64 (-1), apiErr 2]

theorem take_full {w : World} {p n : Nat} {B : List UInt8} (h : IsMap w p n B) (hf : ∀ j, j < n → mbit B j = true) :
    Calls Try.prog 6 #[.pointer (some ⟨p, 0, none⟩)] w fun e w' => e = .returned (.tuple #[.int .i64 (-1), apiErr 2]) ∧ w = w' := by
  have HM := Lib.hid h
  have h0 := h.count
  have HF := Lib.hid hf
  have hm := h.ok.most
  clear h hf
  go_enter Try.func6, Try.ntmps6
  go_wp2_with fail
  refine (least_any HM.out).mono ?_
  rintro e w' ⟨⟨i, rfl, hl, hi⟩, rfl⟩
  have hni : n ≤ i := by
    by_cases c : i < n
    · have := HF.out i c; rw [hl.1] at this; cases this
    · omega
  have HL := Lib.hid hl
  clear hl
  have hd : decide (n ≤ i) = true := by simpa using hni
  go_wp2_with fail
  go_ret2
  exact ⟨rfl, rfl⟩

theorem take_one {w : World} {p n : Nat} {B : List UInt8} (h : IsMap w p n B) (i : Nat) (hi : i < n) (hl : IsLeast B i) :
    Calls Try.prog 6 #[.pointer (some ⟨p, 0, none⟩)] w fun e w' => e = .returned (.tuple #[.int .i64 (i : Int), .nilIface]) ∧ IsMap w' p n (bset B i) ∧ Keep (fun b => b = p) w w' := by
  have HM := Lib.hid h
  have h0 := h.count
  have HF := Lib.hid hl
  have hm := h.ok.most
  clear h hl
  go_enter Try.func6, Try.ntmps6
  go_wp2_with fail
  refine (least_any HM.out).mono ?_
  rintro e w' ⟨⟨i', rfl, hl, _⟩, rfl⟩
  obtain rfl : i = i' := by
    have h1 := HF.out
    rcases Nat.lt_trichotomy i i' with c | c | c
    · have := hl.2 i c; rw [h1.1] at this; cases this
    · exact c
    · have := h1.2 i' c; rw [hl.1] at this; cases this
  clear hl
  have hd : decide (n ≤ i) = false := by simpa using hi
  go_wp2_with (go_at_call 9; refine (set_new HM.out i hi HF.out.1).mono ?_; rintro e w' ⟨rfl, h2, h3⟩; have H2 := Lib.hid h2; have H3 := Lib.hid h3; clear h2 h3)
  go_ret2
  exact ⟨rfl, H2.out, H3.out⟩

set_option maxHeartbeats 1000000 in
theorem left_any {w : World} {p n : Nat} {B : List UInt8} (h : IsMap w p n B) :
    Calls Try.prog 13 #[.pointer (some ⟨p, 0, none⟩)] w fun e w' => e = .returned (.int .i64 ((n : Int) - (cnt B n : Int))) ∧ w = w' := by
  have HR := Lib.hid h.range
  have HL := Lib.hid h.ok.len
  have h0 := h.count
  have hm := h.ok.most
  have HC : Hid (cnt B (8 * 512) = cnt B n) := Lib.hid (cnt_clear h.ok.clear _ (by omega))
  clear h
  go_enter Try.func13, Try.ntmps13
  go_wp2_with (refine wpList_load_mid rfl 43 _ rfl p 1 rfl (bcells B) _ HR.out Try.underlying43 rfl (by rw [bcells_length, HL.out]; exact Try.infoTaken) ?_)
  go_loop [3, 16] (fun l i => ∃ k : Nat, k ≤ 512 ∧ i = .int .i64 k ∧ l = .int .i64 ((n : Int) - (cnt B (8 * k) : Int))) (fun _ i => 512 - (intOf i).toNat)
  case atStart => exact ⟨0, by omega, rfl, by simp [cnt]⟩
  case round =>
    obtain ⟨k, hk, rfl, rfl⟩ := hrel
    have hle := cnt_le B (8 * k)
    by_cases hlt : k < 512
    · obtain ⟨c, hcd⟩ : ∃ c, B.getD k 0 = c := ⟨_, rfl⟩
      have HCD := Lib.hid hcd
      have HS := Lib.hid (cnt_byte B k)
      have hp := popc_le c
      have HE : Hid ((n : Int) - (cnt B (8 * (k + 1)) : Int) = (n : Int) - (cnt B (8 * k) : Int) - (popc c : Int)) := Lib.hid (by rw [HS.out, hcd]; omega)
      generalize cnt B (8 * k) = s at *
      clear hcd HS
      go_wp2_with (first | (refine wpList_index_taken rfl _ _ rfl B k hlt HL.out c HCD.out rfl rfl ?_) | (go_at_call 19; refine (pop_any c _).mono ?_; rintro e w' ⟨rfl, rfl⟩))
      go_round
      case rel => exact ⟨k + 1, by omega, by go_num, by rw [HE.out]⟩
      case measure => simp [intOf]; omega
    · obtain rfl : k = 512 := by omega
      rw [HC.out]
      go_wp2
      go_ret
      exact ⟨rfl, rfl⟩

theorem new_out {w : World} (n : Int) (h : n < 0 ∨ 4096 < n) : Calls Try.prog 5 #[.int .i64 n] w fun e w' => e = .returned (.pointer none) ∧ w = w' := by
  by_cases h0 : n < 0
  · go_enter Try.func5, Try.ntmps5
    go_wp2
    go_ret
    exact ⟨rfl, rfl⟩
  · have h1 : 4096 < n := by omega
    clear h
    go_enter Try.func5, Try.ntmps5
    go_wp2
    go_ret
    exact ⟨rfl, rfl⟩

theorem Try.builtM (n : Nat) : Try.prog.built 45 [(0, .int .i64 (n : Int))] = some (mapC n noBits) := by kernel_rfl

theorem wpList_build_map {ops : Array Oper} {rest : List Oper} {o : Oper} {a : Act} {w : World} {Q : Exit → Act → World → Prop} (hg : o.guard = none) (x : Operand) (ho : o.op = .build 45 #[(0, x)]) (n : Nat) (hx : a.eval x = .int .i64 (n : Int))
    (h : wpList Try.prog ops Q rest (a.put o.dst (.agg (mapC n noBits))) w) : wpList Try.prog ops Q (o :: rest) a w :=
  wpList_buildTo hg 45 #[(0, x)] ho o.dst rfl (mapC n noBits) (by simp [hx]; exact Try.builtM n) h

theorem wpList_box_agg {P : Program} {ops : Array Oper} {rest : List Oper} {o : Oper} {a : Act} {w : World} {Q : Exit → Act → World → Prop} (hg : o.guard = none) (t : TypeId) (x : Operand) (ho : o.op = .box t x) (cs : Array Value) (hx : a.eval x = .agg cs)
    (h : wpList P ops Q rest (a.put o.dst (.pointer (some ⟨w.heap.size, 0, none⟩))) (w.alloc (.cells cs t))) : wpList P ops Q (o :: rest) a w := by
  refine wpList_plain hg fun K hK => ?_
  unfold Oper.wp execOp
  simp only [ho, hx, Sem.run_bind, Instr.box, Result.andThen_ok, newVar, newRow, run_newObj_alloc, Sem.run_pure, Value.cells]
  exact hK _ _ h

set_option maxHeartbeats 1000000 in
theorem newM_any {w : World} (n : Nat) (h : n ≤ 4096) : Calls Try.prog 5 #[.int .i64 n] w fun e w' => e = .returned (.pointer (some ⟨w.heap.size, 0, none⟩)) ∧ IsMap w' w.heap.size n noBits ∧ Keep (fun _ => False) w w' ∧ w'.heap.size = w.heap.size + 1 := by
  have d0 : decide ((n : Int) < 0) = false := by simp
  have d1 : decide (4096 < (n : Int)) = false := by simp; omega
  go_enter Try.func5, Try.ntmps5
  go_wp2_with (first | (refine wpList_build_map rfl _ rfl n rfl ?_) | (refine wpList_box_agg rfl 45 _ rfl (mapC n noBits) rfl ?_))
  go_ret
  exact ⟨rfl, ⟨heap_alloc_new w _, MOk.new h⟩, (Keep.refl _ w).alloc _, by simp⟩

theorem size_any {w : World} (n : Nat) (h : n ≤ 4096) : Calls Try.prog 17 #[.int .i64 n] w fun e w' => e = .returned (.int .i64 (((n + 7) / 8 : Nat) : Int)) ∧ w = w' := by
  go_enter Try.func17, Try.ntmps17
  go_wp2
  go_ret
  exact ⟨rfl, rfl⟩

theorem Seen.srcM {P : Program} {w : World} {size n : Nat} {v : Value} {xs : List Value} {tx e : TypeId} (h : Seen w size v n xs) (ht : P.underlying tx = some (.slice e)) (h1 : ∀ u ∈ xs, u.oneCell' = true) : Src P size tx v n xs w := by
  obtain ⟨hl, a, cap, rfl, hc, hm, hcell⟩ := h
  rcases hcell with rfl | ⟨g, off, rfl, _, hcl⟩
  · have : xs = [] := List.eq_nil_of_length_eq_zero (by simpa using hl)
    subst this
    cases a with
    | none => exact Src.ofNil w ht cap
    | some a => exact Src.ofSlice w ht a 0 cap [] (by simp) (fun j u hu => by simp at hu) (by simp)
  · exact Src.ofSlice w ht _ n cap xs hl (fun j u hu => by rw [add_off]; exact hcl j u hu) h1

set_option maxHeartbeats 1000000 in
/-- slices.Clone of bytes: a new row. -/
theorem cloneB_any {w : World} {g off cap : Nat} {l : List UInt8} {n : Nat} (h : Seen w 1 (.slice (some ⟨g, off, none⟩) n cap) n (bcells l)) (hm : n ≤ 4096) :
    Calls Try.prog 18 #[.slice (some ⟨g, off, none⟩) n cap] w fun e w' => ∃ v, e = .returned v ∧ Row w' 5 1 v n (bcells l) ∧ Keep (fun _ => False) w w' ∧ (∀ b, v.ownBlock = some b → w.heap.size ≤ b) := by
  have he : ∀ w, (binOp .eql 38 (.slice (some ⟨g, off, none⟩) n cap) (.slice none 0 0)).run Try.prog w = .ok (.bool false) w := fun w => Lib.run_eql_slice_some_nil w _ _ _ Try.underlying38
  obtain ⟨i0, hi0, hz0, hz1, hz2⟩ := info_parts Try.infoB
  have HI := Lib.hid hi0; have HZ0 := Lib.hid hz0; have HZ1 := Lib.hid hz1; have HZ2 := Lib.hid hz2
  have hnew := Lib.hid (Row.made (w := w) (e := 5) (size := 1) #[] w.heap.size 0 rfl (by omega) rfl)
  have HE : Hid (Seen (w.alloc (.cells #[] 5)) 1 (.slice (some ⟨g, off, none⟩) n cap) n (bcells l)) := Lib.hid (h.keep ((Keep.refl (fun _ => False) w).alloc _) (fun _ _ _ h => h))
  clear h hi0 hz0 hz1 hz2
  go_enter Try.func18, Try.ntmps18
  go_wp2_with (at_builtin; go_loud (refine wpList_append_row _ rfl (.tmp 5) (.tmp 6) rfl Try.underlying38 HI.out HZ0.out HZ1.out HZ2.out rfl rfl hnew.out rfl (HE.out.srcM Try.underlying38 (bcells_one l)) (by unfold maxLen; omega) (by omega) ?k))
  case k =>
    intro v' w' r1 r2 r3 r4
    have R1 := Lib.hid r1; have R2 := Lib.hid r2; have R3 := Lib.hid r3
    clear r1 r2 r3 r4
    go_wp2
    go_ret
    have h1 := R1.out
    refine ⟨v', rfl, h1, ?_, fun b hb => ?_⟩
    · exact ((Keep.refl (fun _ => False) w).alloc _).trans R2.out (fun k hk => by simp [Value.ownBlock] at hk; exact .inr (by omega))
    · rcases R3.out b hb with h2 | h2
      · simp [Value.ownBlock] at h2; omega
      · have := h2.1; omega

end Go.Proofs.Ytflfmcnbojphgaa
