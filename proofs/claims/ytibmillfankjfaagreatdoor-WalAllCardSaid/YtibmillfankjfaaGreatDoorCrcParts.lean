/- Parts that were just laid, and their sum. -/
import Derived.Test.YtibmillfankjfaaGreatDoorCrc
namespace Go.Proofs.YtibmillfankjfaaGreatDoor
open Go.RowKit
set_option maxRecDepth 100000

theorem Seen.alloc {w : World} {size n : Nat} {v : Value} {xs : List Value} (h : Seen w size v n xs) (o : Obj) : Seen (w.alloc o) size v n xs :=
  h.keep (F := fun _ => False) ((Keep.refl _ w).alloc o) (fun _ _ _ h => h)

theorem Tab.alloc {w : World} (h : Tab w) (o : Obj) : Tab (w.alloc o) := h.keep (F := fun _ => False) ((Keep.refl _ w).alloc o) (fun h => h)

/-- What was just laid, as a slice that may be read. -/
theorem Seen.lit {w : World} {size : Nat} {t : TypeId} {f : Nat × Nat} (cs : Array Value) (b n c : Nat) (hb : b = w.heap.size) (hn : cs.size = n * size) (hc : n ≤ c) (hm : c ≤ maxLen) : Seen (w.alloc (.cells cs t f)) size (.slice (some ⟨b, 0, none⟩) n c) n cs.toList := by
  subst hb
  refine ⟨by simpa using hn, _, c, rfl, hc, hm, .inr ⟨w.heap.size, 0, rfl, by simp, fun j u hu => ?_⟩⟩
  rw [Nat.zero_add, World.cell?_alloc_mark]
  simpa using hu

theorem Parts.lit1 {w : World} {u : Value} {l : List UInt8} {t : TypeId} {b : Nat} (h : Seen w 1 u l.length (bcells l)) (hb : b = w.heap.size) : Parts (w.alloc (.cells #[u] t)) (.slice (some ⟨b, 0, none⟩) 1 1) [l] :=
  ⟨[u], Seen.lit #[u] b 1 1 hb rfl (by omega) (by simp [maxLen]), fun j hj => by
    obtain rfl : j = 0 := by simpa using hj
    exact ⟨u, rfl, h.alloc _⟩⟩

theorem Parts.lit2 {w : World} {u v : Value} {l m : List UInt8} {t : TypeId} {b : Nat} (h : Seen w 1 u l.length (bcells l)) (k : Seen w 1 v m.length (bcells m)) (hb : b = w.heap.size) : Parts (w.alloc (.cells #[u, v] t)) (.slice (some ⟨b, 0, none⟩) 2 2) [l, m] :=
  ⟨[u, v], Seen.lit #[u, v] b 2 2 hb rfl (by omega) (by simp [maxLen]), fun j hj => by
    match j, hj with
    | 0, _ => exact ⟨u, rfl, h.alloc _⟩
    | 1, _ => exact ⟨v, rfl, k.alloc _⟩⟩

theorem Seen.src {P : Program} {w : World} {size n : Nat} {v : Value} {xs : List Value} {tx e : TypeId} (h : Seen w size v n xs) (ht : P.underlying tx = some (.slice e)) (h1 : ∀ u ∈ xs, u.oneCell' = true) : Src P size tx v n xs w := by
  obtain ⟨hl, a, cap, rfl, hc, hm, hcell⟩ := h
  rcases hcell with rfl | ⟨g, off, rfl, _, hcl⟩
  · have : xs = [] := List.eq_nil_of_length_eq_zero (by simpa using hl)
    subst this
    cases a with
    | none => exact Src.ofNil w ht cap
    | some a => exact Src.ofSlice w ht a 0 cap [] (by simp) (fun j u hu => by simp at hu) (by simp)
  · exact Src.ofSlice w ht _ n cap xs hl (fun j u hu => by rw [add_off]; exact hcl j u hu) h1

/-- Parts of one. -/
theorem sum1_any {w : World} {u : Value} {l : List UInt8} {t : TypeId} {b : Nat} (hT : Tab w) (h : Seen w 1 u l.length (bcells l)) (hb : b = w.heap.size) :
    Calls Tryz.prog 58 #[.slice (some ⟨b, 0, none⟩) 1 1] (w.alloc (.cells #[u] t)) fun e w' => e = .returned (.int .u32 (crcMore 0 l : Int)) ∧ w.alloc (.cells #[u] t) = w' := by
  have := sum_any (hT.alloc (.cells #[u] t)) (Parts.lit1 (t := t) h hb)
  simpa using this

/-- Parts of two. -/
theorem sum2_any {w : World} {u v : Value} {l m : List UInt8} {t : TypeId} {b : Nat} (hT : Tab w) (h : Seen w 1 u l.length (bcells l)) (k : Seen w 1 v m.length (bcells m)) (hb : b = w.heap.size) :
    Calls Tryz.prog 58 #[.slice (some ⟨b, 0, none⟩) 2 2] (w.alloc (.cells #[u, v] t)) fun e w' => e = .returned (.int .u32 (crcMore 0 (l ++ m) : Int)) ∧ w.alloc (.cells #[u, v] t) = w' := by
  have := sum_any (hT.alloc (.cells #[u, v] t)) (Parts.lit2 (t := t) h k hb)
  simpa using this

end Go.Proofs.YtibmillfankjfaaGreatDoor
