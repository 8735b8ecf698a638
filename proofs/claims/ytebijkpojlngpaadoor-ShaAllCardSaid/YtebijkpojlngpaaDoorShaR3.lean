/- The reference's primes. -/
import Derived.Test.YtebijkpojlngpaaDoorShaR2
namespace Go.Proofs.YtebijkpojlngpaaDoor.Sha
open Go.RowKit Go.Proofs.YtebijkpojlngpaaDoor
set_option maxRecDepth 100000

def pcells (l : List Nat) : List Value := l.map fun n : Nat => Value.int .u64 (n : Int)
theorem pcells_length (l : List Nat) : (pcells l).length = l.length := by simp [pcells]
theorem pcells_get (l : List Nat) (j : Nat) (h : j < l.length) : (pcells l)[j]? = some (.int .u64 ((l[j] : Nat) : Int)) := by simp [pcells, List.getElem?_eq_getElem h]

/-- The list is the primes below k + 2. -/
def PrIs (k : Nat) (L : List Nat) : Prop := L = primesB k

theorem primesB_mono : ∀ (k d : Nat), ∃ t, primesB (k + d) = primesB k ++ t
  | k, 0 => ⟨[], by simp⟩
  | k, d + 1 => by
    obtain ⟨t, ht⟩ := primesB_mono k d
    rw [← Nat.add_assoc, primesB]
    split
    · exact ⟨t ++ [k + d + 2], by rw [ht, List.append_assoc]⟩
    · exact ⟨t, ht⟩

theorem PrIs.short {k : Nat} {L : List Nat} (h : PrIs k L) (hk : k ≤ 310) (hl : L.length < 64) : k < 310 := by
  by_cases e : k = 310
  · subst e; rw [h, primes_len] at hl; omega
  · omega
theorem PrIs.full {k : Nat} {L : List Nat} (h : PrIs k L) (hk : k ≤ 310) (hl : ¬ L.length < 64) : L = primesB 310 := by
  obtain ⟨t, ht⟩ := primesB_mono k (310 - k)
  rw [show k + (310 - k) = 310 by omega, ← h] at ht
  have h1 := primes_len
  rw [ht, List.length_append] at h1
  have : t = [] := List.eq_nil_of_length_eq_zero (by omega)
  rw [ht, this, List.append_nil]
theorem PrIs.le {k : Nat} {L : List Nat} (h : PrIs k L) (hk : k ≤ 310) : L.length ≤ 64 := by
  obtain ⟨t, ht⟩ := primesB_mono k (310 - k)
  rw [show k + (310 - k) = 310 by omega, ← h] at ht
  have h1 := primes_len
  rw [ht, List.length_append] at h1
  omega
theorem PrIs.pos {k : Nat} {L : List Nat} (h : PrIs k L) (hk : k ≤ 310) (j : Nat) (hj : j < L.length) : 0 < L[j] ∧ L[j] < 400 := by
  obtain ⟨t, ht⟩ := primesB_mono k (310 - k)
  rw [show k + (310 - k) = 310 by omega, ← h] at ht
  have h1 := primes_fit
  rw [ht, List.all_append, Bool.and_eq_true] at h1
  have := List.all_eq_true.1 h1.1 L[j] (List.getElem_mem hj)
  simpa using this
theorem PrIs.yes {k : Nat} {L : List Nat} (h : PrIs k L) (hp : primeTo (k + 2) L = true) : PrIs (k + 1) (L ++ [k + 2]) := by
  unfold PrIs at *
  rw [primesB, ← h, if_pos hp]
theorem PrIs.no {k : Nat} {L : List Nat} (h : PrIs k L) (hp : primeTo (k + 2) L = false) : PrIs (k + 1) L := by
  unfold PrIs at *
  rw [primesB, ← h, if_neg (by rw [hp]; exact Bool.false_ne_true)]

theorem primeTo_take (n : Nat) (L : List Nat) (j : Nat) (h : j < L.length) : primeTo n (L.take (j + 1)) = (primeTo n (L.take j) && (n % L[j] != 0)) := by
  unfold primeTo
  rw [List.take_succ_eq_append_getElem h, List.all_append]; simp

structure PrR (w : World) (v3 v4 : Value) (wr : World) : Prop where
  ex : ∃ (k : Nat) (q : Nat) (L : List Nat), k ≤ 310 ∧ q = k + 2 ∧ v4 = .int .u64 (q : Int) ∧ Row wr 37 1 v3 L.length (pcells L) ∧ Hid (PrIs k L) ∧ Keep (fun _ => False) w wr ∧ (∀ b, v3.ownBlock = some b → w.heap.size ≤ b)

theorem Tryd.infoU64 : (Tryd.prog.info? 37).map (fun i => (i.zero, i.size, i.bytes)) = some (some (.int .u64 0), 1, 8) := by kernel_rfl

set_option maxHeartbeats 1000000 in
theorem primes_any {w : World} :
    Calls Tryd.prog 17 #[.int .i64 64] w fun e w' => ∃ v, e = .returned v ∧ Row w' 37 1 v 64 (pcells (primesB 310)) ∧ Keep (fun _ => False) w w' ∧ (∀ b, v.ownBlock = some b → w.heap.size ≤ b) := by
  obtain ⟨F, hF⟩ : ∃ F, F = primesB 310 := ⟨_, rfl⟩
  have hFl : F.length = 64 := by rw [hF]; exact primes_len
  rw [← hF]
  have HF := Lib.hid hF
  clear hF
  obtain ⟨i0, hi0, hz0, hz1, hz2⟩ := info_parts Tryd.infoU64
  go_enter Tryd.func17, Tryd.ntmps17
  go_wp2
  go_loopw [3, 4] (fun v3 v4 wr => PrR w v3 v4 wr) (fun _ v4 _ => 400 - (intOf v4).toNat)
  case atStart => exact ⟨0, 2, [], by omega, rfl, rfl, Row.nil _ _ _, Lib.hid rfl, Keep.refl _ w, fun b h => by simp [Value.ownBlock] at h⟩
  case round =>
    obtain ⟨k, q, L, hk, hq, rfl, hR, HP, hK, hN⟩ := hrel.ex
    clear hrel
    have hLm := HP.out.le hk
    obtain ⟨a3, c3, rfl, hc3, hm3⟩ := hR.slice
    have HRw := Lib.hid hR
    have HKw := Lib.hid hK
    have HNw := Lib.hid hN
    unfold maxLen at hm3
    clear hR hK hN
    obtain ⟨n, hn⟩ : ∃ n, n = L.length := ⟨_, rfl⟩
    rw [← hn] at HRw HNw hLm hc3 ⊢
    have HN := Lib.hid hn
    by_cases hlt : n < 64
    · have hk1 : k < 310 := HP.out.short hk (by omega)
      have HQ := Lib.hid hq
      have hq1 : (q : Int) ≤ 312 := by omega
      clear hq hn
      go_wp2
      go_loop [5, 6] (fun ok i => ∃ j : Nat, j ≤ n ∧ i = .int .i64 (j : Int) ∧ ok = .bool (primeTo q (L.take j))) (fun _ i => n - (intOf i).toNat)
      case atStart => exact ⟨0, by omega, rfl, rfl⟩
      case round =>
        obtain ⟨j, hj, rfl, rfl⟩ := hrel
        by_cases hlj : j < n
        · have hjL : j < L.length := by have := HN.out; omega
          obtain ⟨g, o, c, hv, _, _⟩ := HRw.out.full (by omega)
          simp only [Value.slice.injEq] at hv
          obtain ⟨rfl, _, rfl⟩ := hv
          have HST := Lib.hid (primeTo_take q L j hjL)
          have hpp := HP.out.pos hk j hjL
          have c0 : wr.cell? ⟨g, o + j, none⟩ = some (.int .u64 ((L[j] : Nat) : Int)) := by
            have := HRw.out.cellAt j (by omega)
            rw [this]; exact pcells_get L j hjL
          generalize L[j] = p at *
          generalize primeTo q (L.take j) = ok at *
          have hp1 : ¬ (p : Int) = 0 := by omega
          have hp2 : (0 : Int) < (p : Int) := by omega
          have hp3 : (p : Int) < 400 := by omega
          cases ok with
          | true =>
            have hb : (((q : Int) % (p : Int)) != 0) = (q % p != 0) := by
              rw [Bool.eq_iff_iff, bne_iff_ne, bne_iff_ne]; omega
            go_wp2
            go_round
            case rel => exact ⟨j + 1, by omega, by go_num, by rw [HST.out]; simp [hb]⟩
            case measure => simp [intOf]; omega
          | false =>
            go_wp2
            go_round
            case rel => exact ⟨j + 1, by omega, by go_num, by rw [HST.out]; rfl⟩
            case measure => simp [intOf]; omega
        · obtain rfl : j = n := by omega
          have ht : L.take j = L := List.take_of_length_le (by have := HN.out; omega)
          rw [ht]
          have HY := Lib.hid (fun (h : primeTo q L = true) => HP.out.yes (by rw [← HQ.out]; exact h))
          have HO := Lib.hid (fun (h : primeTo q L = false) => HP.out.no (by rw [← HQ.out]; exact h))
          clear ht
          generalize hok : primeTo q L = ok at *
          cases ok with
          | true =>
            have HP1 := Lib.hid (HY.out rfl)
            rw [← HQ.out] at HP1
            clear hok
            go_wp2_with (at_builtin; go_loud (refine wpList_append_row _ rfl (.tmp 30) (.tmp 32) rfl Tryd.underlying38 hi0 hz0 hz1 hz2 rfl rfl (HRw.out.alloc _) rfl (Src.lit Tryd.underlying38 #[.int .u64 (q : Int)] _ 1 1 rfl rfl ?c2) ?c3 ?c4 ?grow))
            case c2 => simp [Value.oneCell']
            case c3 => simp only [maxLen]; omega
            case c4 => omega
            case grow =>
              intro v7 w2 hr2 hk2 hb2 _
              have HR2 : Hid (Row w2 37 1 v7 (L ++ [q]).length (pcells (L ++ [q]))) := Lib.hid (by
                have e1 : (L ++ [q]).length = j + 1 := by rw [List.length_append, ← HN.out]; rfl
                have e2 : pcells (L ++ [q]) = pcells L ++ [Value.int .u64 (q : Int)] := by simp [pcells]
                rw [e1, e2]; exact hr2)
              have HK2 := Lib.hid ((HKw.out.alloc (.cells #[.int .u64 (q : Int)] 37)).trans hk2 (fun b e => .inr (HNw.out b e)))
              have HN2 := Lib.hid (fun b (e : v7.ownBlock = some b) => by
                rcases hb2 b e with h | h
                · exact HNw.out b h
                · have := HKw.out.size; have h9 : (wr.alloc (.cells #[.int .u64 (q : Int)] 37)).heap.size = wr.heap.size + 1 := World.size_alloc ..; omega)
              obtain ⟨a7, c7, rfl, _, _⟩ := hr2.slice
              clear hr2 hk2 hb2
              go_wp2
              go_roundw
              case rel =>
                (repeat apply Exists.intro)
                exact ⟨k + 1, q + 1, L ++ [q], by omega, by have := HQ.out; omega, by rw [Int.natCast_add]; rfl, by have e1 : (L ++ [q]).length = j + 1 := by { rw [List.length_append, ← HN.out]; rfl }; have h9 := HR2.out; rw [e1] at h9 ⊢; exact h9, HP1, HK2.out, HN2.out⟩
              case measure => simp [intOf]; omega
          | false =>
            have HP1 := Lib.hid (HO.out rfl)
            clear hok
            go_wp2
            go_roundw
            case rel =>
              (repeat apply Exists.intro)
              exact ⟨k + 1, q + 1, L, by omega, by have := HQ.out; omega, by rw [Int.natCast_add]; rfl, by rw [← HN.out]; exact HRw.out, Lib.hid HP1.out, HKw.out, HNw.out⟩
            case measure => simp [intOf]; omega
    · have hL : L = F := by rw [HF.out]; exact HP.out.full hk (by omega)
      have hn64 : n = 64 := by omega
      subst hn64
      have HRF : Hid (Row wr 37 1 (.slice a3 64 c3) 64 (pcells F)) := Lib.hid (by rw [← hL]; exact HRw.out)
      clear hq hn
      go_wp2
      go_ret
      exact ⟨_, rfl, HRF.out, HKw.out, HNw.out⟩

end Go.Proofs.YtebijkpojlngpaaDoor.Sha
