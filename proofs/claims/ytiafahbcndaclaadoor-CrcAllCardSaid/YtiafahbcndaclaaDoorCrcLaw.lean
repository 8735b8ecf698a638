/- What the laws' own helpers of layer 2 do: bytes that are not too many; the sum of the nine digits; parts that were just laid. -/
import Derived.Test.YtiafahbcndaclaaDoorCrcRef
import Derived.Lib.SlBytesConst
namespace Go.Proofs.YtiafahbcndaclaaDoor
open Go.RowKit

theorem Seen.alloc {w : World} {size n : Nat} {v : Value} {xs : List Value} (h : Seen w size v n xs) (o : Obj) : Seen (w.alloc o) size v n xs :=
  h.keep (F := fun _ => False) ((Keep.refl _ w).alloc o) (fun _ _ _ h => h)

theorem Tab.alloc {w : World} (h : Tab w) (o : Obj) : Tab (w.alloc o) := h.keep (F := fun _ => False) ((Keep.refl _ w).alloc o) (fun h => h)

/-- What was just laid, as a slice that may be read. -/
theorem Seen.lit {w : World} {size : Nat} {t : TypeId} {f : Nat × Nat} (cs : Array Value) (b n c : Nat) (hb : b = w.heap.size) (hn : cs.size = n * size) (hc : n ≤ c) (hm : c ≤ maxLen) : Seen (w.alloc (.cells cs t f)) size (.slice (some ⟨b, 0, none⟩) n c) n cs.toList := by
  subst hb
  refine ⟨by simpa using hn, _, c, rfl, hc, hm, .inr ⟨w.heap.size, 0, rfl, by simp, fun j u hu => ?_⟩⟩
  rw [Nat.zero_add, World.cell?_alloc_mark]
  simpa using hu

theorem Parts.lit1 {w : World} {u : Value} {l : List UInt8} {t : TypeId} {b : Nat} (h : Seen w 1 u l.length (bcells l)) (hb : b = w.heap.size) : Parts (w.alloc (.cells #[u] t)) (.slice (some ⟨b, 0, none⟩) 1 1) [l] :=
  ⟨[u], Seen.lit #[u] b 1 1 hb rfl (by omega) (by simp [maxLen]), fun j hj => by
    obtain rfl : j = 0 := by simpa using hj
    exact ⟨u, rfl, h.alloc _⟩⟩

theorem Parts.lit2 {w : World} {u v : Value} {l m : List UInt8} {t : TypeId} {b : Nat} (h : Seen w 1 u l.length (bcells l)) (k : Seen w 1 v m.length (bcells m)) (hb : b = w.heap.size) : Parts (w.alloc (.cells #[u, v] t)) (.slice (some ⟨b, 0, none⟩) 2 2) [l, m] :=
  ⟨[u, v], Seen.lit #[u, v] b 2 2 hb rfl (by omega) (by simp [maxLen]), fun j hj => by
    match j, hj with
    | 0, _ => exact ⟨u, rfl, h.alloc _⟩
    | 1, _ => exact ⟨v, rfl, k.alloc _⟩⟩

theorem Seen.src {P : Program} {w : World} {size n : Nat} {v : Value} {xs : List Value} {tx e : TypeId} (h : Seen w size v n xs) (ht : P.underlying tx = some (.slice e)) (h1 : ∀ u ∈ xs, u.oneCell' = true) : Src P size tx v n xs w := by
  obtain ⟨hl, a, cap, rfl, hc, hm, hcell⟩ := h
  rcases hcell with rfl | ⟨g, off, rfl, _, hcl⟩
  · have : xs = [] := List.eq_nil_of_length_eq_zero (by simpa using hl)
    subst this
    cases a with
    | none => exact Src.ofNil w ht cap
    | some a => exact Src.ofSlice w ht a 0 cap [] (by simp) (fun j u hu => by simp at hu) (by simp)
  · exact Src.ofSlice w ht _ n cap xs hl (fun j u hu => by rw [add_off]; exact hcl j u hu) h1

/-- u reads as the bytes m wherever vb reads as the bytes l. -/
def Shorter (vb u : Value) (l m : List UInt8) : Prop := ∀ w0, Seen w0 1 vb l.length (bcells l) → Seen w0 1 u m.length (bcells m)

set_option maxHeartbeats 1000000 in
/-- At most n of the bytes. -/
theorem short_any {w : World} {vb : Value} {l : List UInt8} (h : Seen w 1 vb l.length (bcells l)) (n : Nat) (hn : n ≤ 1000) :
    Calls Tryd.prog 6 #[vb, .int .i64 (n : Int)] w fun e w' => ∃ u, e = .returned u ∧ Shorter vb u l (l.take n) ∧ w = w' := by
  obtain ⟨_, ab, cap, rfl, hlc, hcm, _⟩ := h
  unfold maxLen at hcm
  by_cases t : n < l.length
  · have HR : Hid (Shorter (.slice ab l.length cap) (.slice ab n cap) l (l.take n)) := Lib.hid (by
      intro w0 h
      obtain ⟨h1, a, c, hv, h2, h3, h4⟩ := h
      simp only [Value.slice.injEq] at hv
      obtain ⟨rfl, _, rfl⟩ := hv
      have e : (l.take n).length = n := by simp; omega
      rw [e]
      refine ⟨by simp [bcells]; omega, _, _, rfl, by omega, h3, ?_⟩
      rcases h4 with h4 | ⟨g, off, hg, hlt, hc⟩
      · omega
      · refine .inr ⟨g, off, hg, hlt, fun j u hu => hc j u ?_⟩
        simp only [bcells, List.map_take, List.getElem?_take] at hu
        split at hu
        · exact hu
        · cases hu)
    go_enter Tryd.func6, Tryd.ntmps6
    go_wp2
    go_ret
    exact ⟨_, rfl, HR.out, rfl⟩
  · have HR : Hid (Shorter (.slice ab l.length cap) (.slice ab l.length cap) l (l.take n)) := Lib.hid (by
      rw [List.take_of_length_le (by omega)]; exact fun _ h => h)
    go_enter Tryd.func6, Tryd.ntmps6
    go_wp2
    go_ret
    exact ⟨_, rfl, HR.out, rfl⟩

theorem short_m {w : World} {vb : Value} {l m : List UInt8} (n : Nat) (h : Seen w 1 vb l.length (bcells l)) (hm : m = l.take n) (hn : n ≤ 1000) :
    Calls Tryd.prog 6 #[vb, .int .i64 (n : Int)] w fun e w' => ∃ u, e = .returned u ∧ Shorter vb u l m ∧ w = w' := by
  subst hm; exact short_any h n hn

theorem short_is {w : World} {vb : Value} {l m : List UInt8} (n : Nat) (h : Seen w 1 vb l.length (bcells l)) (hm : m = l.take n) (hn : n ≤ 1000) :
    Calls Tryd.prog 6 #[vb, .int .i64 (n : Int)] w fun e w' => ∃ u, e = .returned u ∧ Seen w 1 u m.length (bcells m) ∧ w = w' := by
  subst hm; exact (short_any h n hn).mono fun e w' ⟨u, he, hu, hw⟩ => ⟨u, he, by subst hw; exact hu _ h, hw⟩

/-- Parts of one. -/
theorem sum1_any {w : World} {u : Value} {l : List UInt8} {t : TypeId} {b : Nat} (hT : Tab w) (h : Seen w 1 u l.length (bcells l)) (hb : b = w.heap.size) :
    Calls Tryd.prog 7 #[.slice (some ⟨b, 0, none⟩) 1 1] (w.alloc (.cells #[u] t)) fun e w' => e = .returned (.int .u32 (crcMore 0 l : Int)) ∧ w.alloc (.cells #[u] t) = w' := by
  have := sum_any (hT.alloc (.cells #[u] t)) (Parts.lit1 (t := t) h hb)
  simpa using this

/-- Parts of two. -/
theorem sum2_any {w : World} {u v : Value} {l m : List UInt8} {t : TypeId} {b : Nat} (hT : Tab w) (h : Seen w 1 u l.length (bcells l)) (k : Seen w 1 v m.length (bcells m)) (hb : b = w.heap.size) :
    Calls Tryd.prog 7 #[.slice (some ⟨b, 0, none⟩) 2 2] (w.alloc (.cells #[u, v] t)) fun e w' => e = .returned (.int .u32 (crcMore 0 (l ++ m) : Int)) ∧ w.alloc (.cells #[u, v] t) = w' := by
  have := sum_any (hT.alloc (.cells #[u, v] t)) (Parts.lit2 (t := t) h k hb)
  simpa using this

def digits : List UInt8 := [49, 50, 51, 52, 53, 54, 55, 56, 57]

set_option maxHeartbeats 1000000 in
set_option maxRecDepth 100000 in
theorem begun2_any {w : World} (hT : Tab w) : Calls Tryd.prog 5 #[] w fun e w' => e = .returned (.bool true) ∧ Keep (fun _ => False) w w' := by
  have HT := Lib.hid hT
  clear hT
  have kc := fun (w : World) (C : Array Value) (n c : Nat) => Lib.run_convert_bytes_const (P := Tryd.prog) w 23 5 C n c Tryd.underlying23 Tryd.underlying5
  go_enter Tryd.func5, Tryd.ntmps5
  go_wp2_with fail
  clear kc
  have HD : Hid (crcMore 0 digits = 3421780262) := Lib.hid crc_digits
  have HC : Hid (crcMore 0 [] = 0) := Lib.hid crc_none
  refine (sum1_any (l := digits) (HT.out.alloc _) (Seen.lit (#[.int .u8 49, .int .u8 50, .int .u8 51, .int .u8 52, .int .u8 53, .int .u8 54, .int .u8 55, .int .u8 56, .int .u8 57] : Array Value) _ _ _ rfl rfl (by decide) (by simp [maxLen])) (by simp)).mono ?_
  rw [HD.out]
  rintro e w1 ⟨rfl, rfl⟩
  go_wp2_with fail
  refine (sum_any ((HT.out.alloc _).alloc _) (Parts.nil _)).mono ?_
  rw [show ([] : List (List UInt8)).flatten = [] from rfl, HC.out]
  rintro e w2 ⟨rfl, rfl⟩
  go_wp2
  go_ret
  exact ⟨rfl, ((Keep.refl _ w).alloc _).alloc _⟩

end Go.Proofs.YtiafahbcndaclaaDoor
