/- Small numbers of worlds: levels, bounds, numbers of lines; throws. -/
import Derived.Test.YtheaghgockafmaaGreatWdS
import Derived.Test.YtheaghgockafmaaGreatLinL
import Derived.Lib.Hide
namespace Go.Proofs.YtheaghgockafmaaGreat.Wd
open Go.RowKit Go.Proofs.YtheaghgockafmaaGreat Go.Proofs.YtheaghgockafmaaGreat.Lin
set_option maxRecDepth 100000

def levelF (xp : Int) : Int := 1 + (if xp < 0 then 0 else xp) / 100
def maxHpF (xp : Int) : Int := 20 + 5 * (levelF xp - 1)
theorem levelF_lo (xp : Int) : 1 ≤ levelF xp := by unfold levelF; split <;> omega
theorem levelF_hi {xp : Int} (h : xp ≤ 9223372036854775807) : levelF xp ≤ 92233720368547759 := by unfold levelF; split <;> omega

theorem refLevel_any {w : World} (xp : Int) (h : xp ≤ 9223372036854775807) : Calls Tryz.prog 16 #[.int .i64 xp] w fun e w' => e = .returned (.int .i64 (levelF xp)) ∧ w = w' := by
  by_cases h0 : xp < 0
  · have hd : decide (xp < 0) = true := by simpa using h0
    have HL : Hid (levelF xp = 1) := Lib.hid (by unfold levelF; rw [if_pos h0]; rfl)
    clear h0
    go_enter Tryz.func16, Tryz.ntmps16
    go_wp2
    go_ret
    exact ⟨by rw [HL.out]; rfl, rfl⟩
  · have hd : decide (xp < 0) = false := by simpa using h0
    have HL : Hid (levelF xp = 1 + xp / 100) := Lib.hid (by unfold levelF; rw [if_neg h0])
    go_enter Tryz.func16, Tryz.ntmps16
    go_wp2
    go_ret
    exact ⟨by rw [HL.out]; rfl, rfl⟩

theorem refMaxHp_any {w : World} (xp : Int) (h : xp ≤ 9223372036854775807) : Calls Tryz.prog 18 #[.int .i64 xp] w fun e w' => e = .returned (.int .i64 (maxHpF xp)) ∧ w = w' := by
  have h1 := levelF_lo xp
  have h2 := levelF_hi h
  go_enter Tryz.func18, Tryz.ntmps18
  go_wp2_with (go_at_call 16; (with_reducible refine (refLevel_any _ h).mono ?_); rintro e w' ⟨rfl, rfl⟩)
  go_ret
  exact ⟨rfl, rfl⟩

def inB (n a b : Int) : Bool := decide (a ≤ n) && decide (n ≤ b)
theorem refIn_any {w : World} (n a b : Int) : Calls Tryz.prog 101 #[.int .i64 n, .int .i64 a, .int .i64 b] w fun e w' => e = .returned (.bool (inB n a b)) ∧ w = w' := by
  go_enter Tryz.func101, Tryz.ntmps101
  go_wp2
  all_goals
    go_ret
    refine ⟨?_, rfl⟩
    unfold inB
    simp_all
    try omega

/-- A number of a line, if it is one from a to b. -/
def numF (s : ByteArray) (a b : Int) : Int × Bool :=
  match numL s.data.toList with
  | some n => ((n : Int), inB n a b)
  | none => (0, false)

theorem refNum_any {w : World} (s : ByteArray) (a b : Int) : Calls Tryz.prog 95 #[.string s, .int .i64 a, .int .i64 b] w fun e w' => e = .returned (.tuple #[.int .i64 (numF s a b).1, .bool (numF s a b).2]) ∧ w = w' := by
  rcases hn : numL s.data.toList with _ | n
  · have HE := Lib.hid (numE_none hn)
    have HF : Hid (numF s a b = (0, false)) := Lib.hid (by unfold numF; rw [hn])
    clear hn
    go_enter Tryz.func95, Tryz.ntmps95
    go_wp2_with (go_at_call 182; (with_reducible refine (refNumber_any s).mono ?_); rintro e w' ⟨rfl, rfl⟩; rw [HE.out])
    go_ret2
    exact ⟨by rw [HF.out]; rfl, rfl⟩
  · have HE := Lib.hid (numE_some hn)
    have HF : Hid (numF s a b = ((n : Int), inB n a b)) := Lib.hid (by unfold numF; rw [hn])
    clear hn
    by_cases h1 : a ≤ (n : Int)
    · have d1 : decide (a ≤ (n : Int)) = true := by simpa using h1
      have HB : Hid (inB n a b = decide ((n : Int) ≤ b)) := Lib.hid (by unfold inB; rw [d1, Bool.true_and])
      go_enter Tryz.func95, Tryz.ntmps95
      go_wp2_with (go_at_call 182; (with_reducible refine (refNumber_any s).mono ?_); rintro e w' ⟨rfl, rfl⟩; rw [HE.out])
      go_ret2
      exact ⟨by rw [HF.out, HB.out]; rfl, rfl⟩
    · have d1 : decide (a ≤ (n : Int)) = false := by simpa using h1
      have HB : Hid (inB n a b = false) := Lib.hid (by unfold inB; rw [d1, Bool.false_and])
      go_enter Tryz.func95, Tryz.ntmps95
      go_wp2_with (go_at_call 182; (with_reducible refine (refNumber_any s).mono ?_); rintro e w' ⟨rfl, rfl⟩; rw [HE.out])
      go_ret2
      exact ⟨by rw [HF.out, HB.out]; rfl, rfl⟩

/-! ### lists of texts -/
def tcells (L : List ByteArray) : List Value := L.map Value.string
theorem tcells_get {L : List ByteArray} {k : Nat} {x : ByteArray} (h : L[k]? = some x) : (tcells L)[k]? = some (.string x) := by simp [tcells, h]
theorem tcells_length (L : List ByteArray) : (tcells L).length = L.length := by simp [tcells]
/-- Words as texts. -/
def txts (L : List (List UInt8)) : List ByteArray := L.map fun x => ⟨x.toArray⟩
theorem txts_cells (L : List (List UInt8)) : scells L = tcells (txts L) := by simp [scells, tcells, txts]
theorem txts_length (L : List (List UInt8)) : (txts L).length = L.length := by simp [txts]

theorem str_beq (a b : ByteArray) : (a.toList == b.toList) = decide (a = b) := by
  rw [Bool.eq_iff_iff, beq_iff_eq, decide_eq_true_eq]
  constructor
  · intro h
    rw [ByteArray.toList_eq, ByteArray.toList_eq] at h
    rw [← str_eta a, ← str_eta b, h]
  · intro h; rw [h]

theorem refWordI_any {w : World} (s : ByteArray) {v : Value} {L : List ByteArray} (h : Seen w 1 v L.length (tcells L)) (hl : L.length ≤ 1000000) : Calls Tryz.prog 96 #[.string s, v] w fun e w' => e = .returned (.int .i64 (findI (fun x => decide (x = s)) L)) ∧ w = w' := by
  obtain ⟨_, a1, c1, rfl, hc1, hc2, h1⟩ := h
  unfold maxLen at hc2
  have H1 := Lib.hid h1
  clear h1
  go_enter Tryz.func96, Tryz.ntmps96
  go_wp2
  go_loop [5] (fun iv => ScR (fun x : ByteArray => decide (x = s)) L iv) (fun iv => L.length - (intOf iv).toNat)
  case atStart => exact ⟨0, by omega, rfl, fun j a hj => by omega⟩
  case round =>
    obtain ⟨k, hk, rfl, hall⟩ := hrel.ex
    have HA := Lib.hid hall
    clear hall hrel
    by_cases hlt : k < L.length
    · have hd1 : decide (k < L.length) = true := by simpa using hlt
      obtain ⟨x, hx⟩ : ∃ x, L[k]? = some x := ⟨_, List.getElem?_eq_getElem hlt⟩
      obtain ⟨g, off, rfl, _, q⟩ := H1.out.resolve_left (by omega)
      have q1 := q k _ (tcells_get hx)
      have HX := Lib.hid hx
      clear hx q
      by_cases he : x = s
      · have hb : (x.toList == s.toList) = true := by rw [he]; simp
        have HF := Lib.hid (findI_at (p := fun x : ByteArray => decide (x = s)) HA.out HX.out (by simpa using he))
        clear he
        go_wp2
        go_ret
        exact ⟨by rw [HF.out]; rfl, rfl⟩
      · have hb : (x.toList == s.toList) = false := by rw [str_beq]; simpa using he
        have HN := Lib.hid (scan_next (p := fun x : ByteArray => decide (x = s)) HA.out HX.out (by simpa using he))
        clear he
        go_wp2
        go_round
        case rel => exact ⟨k + 1, by omega, by go_num, HN.out⟩
        case measure => simp [intOf]; omega
    · have hd1 : decide (k < L.length) = false := by rw [decide_eq_false_iff_not]; omega
      have HF := Lib.hid (findI_none (scan_end HA.out (by omega)))
      go_wp2
      go_ret
      exact ⟨by rw [HF.out]; rfl, rfl⟩

theorem Tryz.infoI : (Tryz.prog.info? 3).map (fun i => (i.zero, i.size, i.bytes)) = some (some (.int .i64 0), 1, 8) := by kernel_rfl

/-- Numbers of a line, each from a to b; or none. -/
def numsF (a b : Int) : List ByteArray → Option (List Int)
  | [] => some []
  | s :: L => if (numF s a b).2 then (numsF a b L).map ((numF s a b).1 :: ·) else none

theorem numsF_snoc (a b : Int) (s : ByteArray) : ∀ L : List ByteArray, numsF a b (L ++ [s]) = match numsF a b L with | some l => if (numF s a b).2 then some (l ++ [(numF s a b).1]) else none | none => none
  | [] => by simp [numsF]
  | t :: L => by
    rw [List.cons_append, numsF, numsF, numsF_snoc a b s L]
    cases (numF t a b).2 <;> cases numsF a b L <;> simp <;> split <;> simp
theorem numsF_none (a b : Int) : ∀ (L M : List ByteArray), numsF a b L = none → numsF a b (L ++ M) = none
  | [], _, h => by simp [numsF] at h
  | t :: L, M, h => by
    rw [List.cons_append, numsF]
    rw [numsF] at h
    split
    · rename_i ht
      rw [if_pos ht] at h
      rw [numsF_none a b L M (by simpa using h)]; rfl
    · rfl
theorem numsF_take {L : List ByteArray} {k : Nat} {s : ByteArray} (h : L[k]? = some s) : L.take (k + 1) = L.take k ++ [s] := by rw [List.take_add_one, h]; rfl

structure NsR (a b : Int) (L : List ByteArray) (w0 : World) (ov iv : Value) (wr : World) : Prop where
  ex : ∃ (k : Nat) (l : List Int), k ≤ L.length ∧ iv = .int .i64 (k : Int) ∧ numsF a b (L.take k) = some l ∧ l.length = k ∧ Row wr 3 1 ov k (icells l) ∧ (∀ b, ov.ownBlock = some b → w0.heap.size ≤ b) ∧ Keep (fun x => w0.heap.size ≤ x) w0 wr

/-- Numbers are answered in a new list. -/
def NumsA (o : Option (List Int)) (w : World) (e : Ending) (w' : World) : Prop :=
  (∃ l v, o = some l ∧ e = .returned (.tuple #[v, .bool true]) ∧ Row w' 3 1 v l.length (icells l) ∧ (∀ b, v.ownBlock = some b → w.heap.size ≤ b) ∧ Keep (fun _ => False) w w') ∨ (o = none ∧ e = .returned (.tuple #[.slice none 0 0, .bool false]) ∧ Keep (fun _ => False) w w')

set_option maxHeartbeats 1000000 in
theorem refNums_any {w : World} {v : Value} {L : List ByteArray} (h : Seen w 1 v L.length (tcells L)) (hl : L.length ≤ 1000000) (a b : Int) : Calls Tryz.prog 99 #[v, .int .i64 a, .int .i64 b] w (NumsA (numsF a b L) w) := by
  obtain ⟨i0, hi0, hz0, hz1, hz2⟩ := info_parts Tryz.infoI
  obtain ⟨_, a1, c1, rfl, hc1, hc2, h1⟩ := h
  unfold maxLen at hc2
  have H1 := Lib.hid h1
  clear h1
  go_enter Tryz.func99, Tryz.ntmps99
  go_wp2
  go_loopw [8, 9, 10, 11, 18] (fun ov iv _ _ _ wr => NsR a b L w ov iv wr) (fun _ iv _ _ _ _ => L.length - (intOf iv).toNat)
  case atStart => exact ⟨0, [], by omega, rfl, rfl, rfl, Row.nil _ _ _, fun b hb => by simp [Value.ownBlock] at hb, Keep.refl _ _⟩
  case round =>
    obtain ⟨k, l, hk, rfl, hn, hlk, hrow, hown, hK⟩ := hrel.ex
    have HN := Lib.hid hn; have HLK := Lib.hid hlk; have HROW := Lib.hid hrow; have HOWN := Lib.hid hown; have HK := Lib.hid hK
    clear hn hlk hrow hown hK hrel
    obtain ⟨va, vc, rfl, hvc1, hvc2⟩ := HROW.out.slice
    by_cases hlt : k < L.length
    · have hd1 : decide (k < L.length) = true := by simpa using hlt
      obtain ⟨x, hx⟩ : ∃ x, L[k]? = some x := ⟨_, List.getElem?_eq_getElem hlt⟩
      obtain ⟨g, off, rfl, hg, q⟩ := H1.out.resolve_left (by omega)
      have q1 : wr.cell? ⟨g, off + k, none⟩ = some (.string x) := (HK.out.cell hg (by omega) _).trans (q k _ (tcells_get hx))
      have HS : Hid (numsF a b (L.take (k + 1)) = if (numF x a b).2 then some (l ++ [(numF x a b).1]) else none) := Lib.hid (by rw [numsF_take hx, numsF_snoc, HN.out])
      obtain ⟨n, ok, hnum⟩ : ∃ (n : Int) (ok : Bool), numF x a b = (n, ok) := ⟨_, _, rfl⟩
      have HX := Lib.hid hx
      have HC := Lib.hid (fun w : World => refNum_any (w := w) x a b)
      rw [hnum] at HS HC
      clear hx q hnum
      cases ok with
      | true =>
        go_wp2_with (first
          | (go_at_call 95; (with_reducible refine (HC.out _).mono ?_); rintro e w' ⟨rfl, rfl⟩)
          | (at_builtin; go_loud (refine wpList_append_row _ rfl (.tmp 30) (.tmp 32) rfl Tryz.underlying60 hi0 hz0 hz1 hz2 rfl rfl (HROW.out.alloc _) rfl (Src.lit Tryz.underlying60 #[.int .i64 n] _ 1 1 rfl rfl (by simp [Value.oneCell'])) (by unfold maxLen; omega) (by omega) ?_)))
        intro v7 w2 hr2 hk2 hb2 _
        have HR2 : Hid (Row w2 3 1 v7 (k + 1) (icells (l ++ [n]))) := Lib.hid (by rw [icells_append]; exact hr2)
        have HOW2 : Hid (∀ b, v7.ownBlock = some b → w.heap.size ≤ b) := Lib.hid (fun b hb => by
          have hks := HK.out.size
          rcases hb2 b hb with h | h
          · exact HOWN.out b h
          · have h1 := h.1; first | omega | (simp at h1; omega))
        have HK2 : Hid (Keep (fun x => w.heap.size ≤ x) w w2) := Lib.hid ((HK.out.alloc _).trans hk2 (fun b hb => .inl (HOWN.out b hb)))
        clear hr2 hk2 hb2
        go_wp2
        go_roundw
        case rel => exact ⟨k + 1, l ++ [n], by omega, by go_num, HS.out, by simp [HLK.out], HR2.out, HOW2.out, HK2.out⟩
        case measure => simp [intOf]; omega
      | false =>
        go_wp2_with (go_at_call 95; (with_reducible refine (HC.out _).mono ?_); rintro e w' ⟨rfl, rfl⟩)
        go_ret2
        refine .inr ⟨?_, rfl, HK.out.mono (fun i hi h => by omega)⟩
        have h := numsF_none a b (L.take (k + 1)) (L.drop (k + 1)) (by rw [HS.out]; rfl)
        rwa [List.take_append_drop] at h
    · have hd1 : decide (k < L.length) = false := by rw [decide_eq_false_iff_not]; omega
      have hke : k = L.length := by omega
      have HKE := Lib.hid hke
      clear hke
      go_wp2
      go_ret2
      refine .inl ⟨l, _, ?_, rfl, by rw [HLK.out]; exact HROW.out, HOWN.out, HK.out.mono (fun i hi h => by omega)⟩
      have h := HN.out
      rwa [List.take_of_length_le (by have := HKE.out; omega)] at h

end Go.Proofs.YtheaghgockafmaaGreat.Wd
