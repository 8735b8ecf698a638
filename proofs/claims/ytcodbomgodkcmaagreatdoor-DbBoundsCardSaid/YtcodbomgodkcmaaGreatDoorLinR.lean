/- Texts: the reference's Word and Number. -/
import Derived.Test.YtcodbomgodkcmaaGreatDoorLinM
import Derived.Test.YtcodbomgodkcmaaGreatDoorRow
namespace Go.Proofs.YtcodbomgodkcmaaGreatDoor.Lin
open Go.RowKit Go.Maps Go.Proofs.YtcodbomgodkcmaaGreatDoor
set_option maxRecDepth 100000

def lowB (c : UInt8) : Bool := decide (97 ≤ c.toNat) && decide (c.toNat ≤ 122)

theorem all_of {f : UInt8 → Bool} {s : ByteArray} (h : ∀ j (hs : j < s.size), f s[j] = true) : s.data.toList.all f = true := by
  rw [List.all_eq_true]
  intro c hc
  obtain ⟨j, hj, rfl⟩ := List.mem_iff_getElem.1 hc
  exact h j (by simpa using hj)

theorem all_not {f : UInt8 → Bool} {s : ByteArray} {j : Nat} (hj : j < s.size) (h : f s[j] = false) : s.data.toList.all f = false := by
  rw [← Bool.not_eq_true, List.all_eq_true]
  intro hc
  have := hc s[j] (by
    have e : s[j] = s.data.toList[j]'(by simpa using hj) := rfl
    rw [e]; exact List.getElem_mem _)
  rw [h] at this; cases this

theorem str_len (s : ByteArray) : s.data.toList.length = s.size := rfl

structure AllR (f : UInt8 → Bool) (s : ByteArray) (iv : Value) : Prop where
  ex : ∃ i : Nat, i ≤ s.size ∧ iv = .int .i64 (i : Int) ∧ ∀ j (_ : j < i) (hs : j < s.size), f s[j] = true

theorem AllR.next {f : UInt8 → Bool} {s : ByteArray} {k : Nat} (h : ∀ j (_ : j < k) (hs : j < s.size), f s[j] = true) (hk : k < s.size) (hf : f s[k] = true) : ∀ j (_ : j < k + 1) (hs : j < s.size), f s[j] = true := fun j hj hs => by
  by_cases e : j = k
  · subst e; exact hf
  · exact h j (by omega) hs

theorem ret_iff {x y : Bool} (h : x = true ↔ y = true) : Ending.returned (.bool x) = Ending.returned (.bool y) := by rw [Bool.eq_iff_iff.2 h]

set_option maxHeartbeats 1000000 in
theorem refWord_any (s : ByteArray) (hs : s.size ≤ 1000000) {w : World} : Calls Tryz.prog 77 #[.string s] w fun e w' => e = .returned (.bool (wordB s.data.toList)) ∧ w = w' := by
  obtain ⟨b, hb⟩ : ∃ b, b = wordB s.data.toList := ⟨_, rfl⟩
  rw [← hb]
  have HB := Lib.hid hb
  clear hb
  go_enter Tryz.func77, Tryz.ntmps77
  go_wp2
  go_loop [2, 3] (fun _ iv => AllR lowB s iv) (fun _ iv => s.size - (intOf iv).toNat)
  case atStart => exact ⟨0, by omega, rfl, fun j hj => by omega⟩
  case round =>
    obtain ⟨k, hk, rfl, hall⟩ := hrel.ex
    have HA := Lib.hid hall
    clear hall hrel
    by_cases hlt : k < s.size
    · have HN0 := Lib.hid (fun h : lowB s[k] = false => all_not (f := lowB) hlt h)
      have HR := Lib.hid (AllR.next HA.out hlt)
      have HZ : Hid (lowB s[k] = (decide (97 ≤ (s[k].toNat : Int)) && decide ((s[k].toNat : Int) ≤ 122))) := Lib.hid (by unfold lowB; congr 1 <;> (rw [Bool.eq_iff_iff]; simp; try omega))
      go_wp2
      all_goals
        first
        | (have hz : lowB s[k] = false := by (rw [HZ.out, ← Bool.not_eq_true]; intro e; simp at e; first | omega | (simp at *; omega)))
          (have hn := HN0.out hz)
          go_ret
          exact ⟨by rw [HB.out]; unfold wordB; rw [show (fun c : UInt8 => decide (97 ≤ c.toNat) && decide (c.toNat ≤ 122)) = lowB from rfl, hn, Bool.and_false]; rfl, rfl⟩
        | (have hz : lowB s[k] = true := by (rw [HZ.out]; simp; first | omega | (simp at *; omega)))
          go_round
          case rel => exact ⟨k + 1, by omega, by go_num, HR.out hz⟩
          case measure => simp [intOf]; omega
    · have hd : decide (k < s.size) = false := by rw [decide_eq_false_iff_not]; omega
      have HN := Lib.hid (all_of (f := lowB) fun j hs => HA.out j (by omega) hs)
      go_wp2
      all_goals
        go_ret
        refine ⟨?_, rfl⟩
        rw [HB.out]
        unfold wordB
        rw [show (fun c : UInt8 => decide (97 ≤ c.toNat) && decide (c.toNat ≤ 122)) = lowB from rfl, HN.out, Bool.and_true, str_len]
        exact ret_iff (by first | (simp; done) | (simp; omega))

/-- What Number answers. -/
def numE (l : List UInt8) : Ending := .returned (.tuple #[.int .i64 (((numL l).getD 0 : Nat) : Int), .bool (numL l).isSome])
theorem numE_none {l : List UInt8} (h : numL l = none) : numE l = .returned (.tuple #[.int .i64 0, .bool false]) := by unfold numE; rw [h]; rfl
theorem numE_some {l : List UInt8} {n : Nat} (h : numL l = some n) : numE l = .returned (.tuple #[.int .i64 (n : Int), .bool true]) := by unfold numE; rw [h]; rfl

theorem numL_no {l : List UInt8} (h : l = [] ∨ 13 < l.length ∨ (l.head? = some 48 ∧ 1 < l.length) ∨ l.all isDig = false ∨ 1099511627776 < numV 0 l) : numL l = none := by
  unfold numL
  rw [if_neg]
  rintro ⟨h1, h2, h3, h4, h5⟩
  rcases h with h | h | h | h | h
  · exact h1 h
  · omega
  · exact h3 h
  · have : l.all isDig = true := List.all_eq_true.2 h4
    rw [this] at h; cases h
  · omega
theorem numL_yes {l : List UInt8} (h1 : l ≠ []) (h2 : l.length ≤ 13) (h3 : ¬ (l.head? = some 48 ∧ 1 < l.length)) (h4 : l.all isDig = true) (h5 : numV 0 l ≤ 1099511627776) : numL l = some (numV 0 l) := by
  unfold numL
  rw [if_pos ⟨h1, h2, h3, List.all_eq_true.1 h4, h5⟩]

theorem numV_lt : ∀ (l : List UInt8) (a k : Nat), l.all isDig = true → a < 10 ^ k → numV a l < 10 ^ (k + l.length)
  | [], a, k, _, h => by rw [numV_nil]; simpa using h
  | c :: l, a, k, hd, h => by
    rw [List.all_cons, Bool.and_eq_true] at hd
    have hc := hd.1
    simp [isDig] at hc
    rw [numV_cons, List.length_cons, show k + (l.length + 1) = (k + 1) + l.length by omega]
    exact numV_lt l _ (k + 1) hd.2 (by rw [Nat.pow_succ]; omega)

theorem numV_take {s : ByteArray} {k : Nat} (h : k < s.size) : numV 0 (s.data.toList.take (k + 1)) = 10 * numV 0 (s.data.toList.take k) + (s[k].toNat - 48) := by
  rw [List.take_succ_eq_append_getElem (show k < s.data.toList.length from h), numV_append, numV_one]
  rfl

structure NumR (s : ByteArray) (nv iv : Value) : Prop where
  ex : ∃ i n : Nat, i ≤ s.size ∧ iv = .int .i64 (i : Int) ∧ nv = .int .i64 (n : Int) ∧ n = numV 0 (s.data.toList.take i) ∧ n < 10 ^ i ∧ ∀ j (_ : j < i) (hs : j < s.size), isDig s[j] = true

theorem pow_le13 {i : Nat} (h : i ≤ 13) : 10 ^ i ≤ 10000000000000 := Nat.pow_le_pow_right (n := 10) (by omega) h

set_option maxHeartbeats 1000000 in
theorem refNumber_any (s : ByteArray) {w : World} : Calls Tryz.prog 150 #[.string s] w fun e w' => e = numE s.data.toList ∧ w = w' := by
  by_cases h0 : s.toList = []
  · rw [numE_none (numL_no (.inl (by rw [← ByteArray.toList_eq]; exact h0)))]
    have e0 : s.toList.isEmpty = true := by rw [h0]; rfl
    go_enter Tryz.func150, Tryz.ntmps150
    go_wp2
    go_ret2
    exact ⟨rfl, rfl⟩
  have e0 : s.toList.isEmpty = false := by simp [h0]
  have hne : s.data.toList ≠ [] := by rw [← ByteArray.toList_eq]; exact h0
  have hpos : 0 < s.size := by rw [← str_len]; exact List.length_pos_iff.2 hne
  by_cases h1 : 13 < s.size
  · rw [numE_none (numL_no (.inr (.inl h1)))]
    have d1 : decide (13 < (s.size : Int)) = true := by rw [decide_eq_true_eq]; omega
    clear h0 hne
    go_enter Tryz.func150, Tryz.ntmps150
    go_wp2
    go_ret2
    exact ⟨rfl, rfl⟩
  have d1 : decide (13 < (s.size : Int)) = false := by rw [decide_eq_false_iff_not]; omega
  have hd0 : s.data.toList.head? = some s[0] := by
    rw [List.head?_eq_getElem?, List.getElem?_eq_getElem (show 0 < s.data.toList.length from hpos)]
    rfl
  have c0 : ((s[0].toNat : Int) == 48) = (s[0] == 48) := by
    rw [Bool.eq_iff_iff]
    simp only [beq_iff_eq]
    exact ⟨fun e => UInt8.toNat_inj.1 (by have : (48 : UInt8).toNat = 48 := rfl; omega), fun e => by rw [e]; rfl⟩
  by_cases h2 : s[0] = 48 ∧ 1 < s.size
  · rw [numE_none (numL_no (.inr (.inr (.inl ⟨by rw [hd0, h2.1], h2.2⟩))))]
    have c1 : ((s[0].toNat : Int) == 48) = true := by rw [c0]; simpa using h2.1
    have d2 : decide (1 < (s.size : Int)) = true := by rw [decide_eq_true_eq]; omega
    clear h0 hne hd0 c0 h2
    go_enter Tryz.func150, Tryz.ntmps150
    go_wp2
    go_ret2
    exact ⟨rfl, rfl⟩
  have hn48 : ¬ (s.data.toList.head? = some 48 ∧ 1 < s.data.toList.length) := by
    rw [hd0, str_len]; intro e; exact h2 ⟨by simpa using e.1, e.2⟩
  have d2 : ((s[0].toNat : Int) == 48 && decide (1 < (s.size : Int))) = false := by
    rw [c0, ← Bool.not_eq_true]; intro e; simp at e; exact h2 ⟨e.1, by omega⟩
  have hfin : Hid (s.data.toList.all isDig = true → numV 0 s.data.toList ≤ 1099511627776 → numE s.data.toList = .returned (.tuple #[.int .i64 ((numV 0 s.data.toList : Nat) : Int), .bool true])) := Lib.hid fun ha hv => numE_some (numL_yes hne (by rw [str_len]; omega) hn48 ha hv)
  obtain ⟨E, hE⟩ : ∃ E, E = numE s.data.toList := ⟨_, rfl⟩
  rw [← hE]
  rw [← hE] at hfin
  have HNO : Hid (s.data.toList.all isDig = false → E = .returned (.tuple #[.int .i64 0, .bool false])) := Lib.hid fun h => by rw [hE]; exact numE_none (numL_no (.inr (.inr (.inr (.inl h)))))
  have HBIG : Hid (1099511627776 < numV 0 s.data.toList → E = .returned (.tuple #[.int .i64 0, .bool false])) := Lib.hid fun h => by rw [hE]; exact numE_none (numL_no (.inr (.inr (.inr (.inr h)))))
  have hs13 : s.size ≤ 13 := by omega
  clear h0 hne hd0 h1 h2 hn48 hE
  have hcase : (((s[0].toNat : Int) == 48) = true ∧ decide (1 < (s.size : Int)) = false) ∨ ((s[0].toNat : Int) == 48) = false := by
    cases h : ((s[0].toNat : Int) == 48)
    · exact .inr rfl
    · rw [h] at d2; exact .inl ⟨rfl, by simpa using d2⟩
  clear c0 d2
  rcases hcase with ⟨c1, d3⟩ | c1
  all_goals
    go_enter Tryz.func150, Tryz.ntmps150
    go_wp2
    go_loop [4, 5] (fun nv iv => NumR s nv iv) (fun _ iv => s.size - (intOf iv).toNat)
    case atStart => exact ⟨0, 0, by omega, rfl, rfl, rfl, by decide, fun j hj => by omega⟩
    case round =>
      obtain ⟨k, n, hk, rfl, rfl, hn, hnl, hall⟩ := hrel.ex
      have HA := Lib.hid hall
      have HNV := Lib.hid hn
      have hp13 := pow_le13 (i := k) (by omega)
      clear hall hn hrel
      by_cases hlt : k < s.size
      · have HN0 := Lib.hid (fun h : isDig s[k] = false => all_not (f := isDig) hlt h)
        have HR := Lib.hid (AllR.next HA.out hlt)
        have hcd : (48 ≤ s[k].toNat ∧ s[k].toNat ≤ 57 ∧ isDig s[k] = true) ∨ ((s[k].toNat < 48 ∨ 57 < s[k].toNat) ∧ isDig s[k] = false) := by
          cases h : isDig s[k]
          · refine .inr ⟨?_, rfl⟩
            unfold isDig at h
            rw [← Bool.not_eq_true] at h
            simp at h
            omega
          · refine .inl ?_
            simp [isDig] at h
            exact ⟨h.1, h.2, rfl⟩
        rcases hcd with ⟨z1, z2, hdg⟩ | ⟨z, hdg⟩
        · have g1 : decide ((s[k].toNat : Int) < 48) = false := by rw [decide_eq_false_iff_not]; omega
          have g2 : decide (57 < (s[k].toNat : Int)) = false := by rw [decide_eq_false_iff_not]; omega
          have HG := Lib.hid hdg
          clear hdg
          go_wp2
          go_round
          case rel =>
            refine ⟨k + 1, 10 * n + (s[k].toNat - 48), by omega, by go_num, by congr 1; omega, ?_, ?_, HR.out HG.out⟩
            · rw [numV_take hlt, HNV.out]
            · rw [Nat.pow_succ]; omega
          case measure => simp [intOf]; omega
        · have hE := HNO.out (HN0.out hdg)
          have HE := Lib.hid hE
          clear hdg hE
          by_cases z1 : s[k].toNat < 48
          · have g1 : decide ((s[k].toNat : Int) < 48) = true := by rw [decide_eq_true_eq]; omega
            go_wp2
            go_ret2
            exact ⟨HE.out.symm, rfl⟩
          · have g1 : decide ((s[k].toNat : Int) < 48) = false := by rw [decide_eq_false_iff_not]; omega
            have g2 : decide (57 < (s[k].toNat : Int)) = true := by rw [decide_eq_true_eq]; omega
            go_wp2
            go_ret2
            exact ⟨HE.out.symm, rfl⟩
      · have hd : decide (k < s.size) = false := by rw [decide_eq_false_iff_not]; omega
        have HN := Lib.hid (all_of (f := isDig) fun j hs => HA.out j (by omega) hs)
        have hnv : n = numV 0 s.data.toList := by
          rw [HNV.out, List.take_of_length_le (by rw [str_len]; omega)]
        have hf := hfin.out HN.out
        have hb := HBIG.out
        rw [← hnv] at hf hb
        have HF := Lib.hid hf
        have HB := Lib.hid hb
        clear hf hb hnv
        by_cases hbig : 1099511627776 < n
        · have g : decide (1099511627776 < (n : Int)) = true := by rw [decide_eq_true_eq]; omega
          go_wp2
          go_ret2
          exact ⟨(HB.out hbig).symm, rfl⟩
        · have g : decide (1099511627776 < (n : Int)) = false := by rw [decide_eq_false_iff_not]; omega
          go_wp2
          go_ret2
          exact ⟨(HF.out (by omega)).symm, rfl⟩
end Go.Proofs.YtcodbomgodkcmaaGreatDoor.Lin
