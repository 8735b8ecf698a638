/- codec: a text that is cut; an event that is cut. -/
import Derived.Test.YtpefkellcigpkaaCdT
import Derived.Deep.RegionWith
namespace Go.Proofs.Ytpefkellcigpkaa.Cd
open Go.RowKit Go.Proofs.Ytpefkellcigpkaa
set_option maxRecDepth 100000

theorem cut_any (s : ByteArray) (n : Nat) (hn : n < 1000) {w : World} : Calls Try.prog 20 #[.string s, .int .i64 (n : Int)] w fun e w' => ∃ s' : ByteArray, e = .returned (.string s') ∧ s'.size ≤ n ∧ w' = w := by
  by_cases h : n < s.size
  · have hi : (n : Int) < (s.size : Int) := by omega
    go_enter Try.func20, Try.ntmps20
    go_wp2
    go_ret
    exact ⟨s.extract 0 n, rfl, by rw [ByteArray.size_extract]; omega, rfl⟩
  · have hi : (s.size : Int) ≤ (n : Int) := by omega
    go_enter Try.func20, Try.ntmps20
    go_wp2
    go_ret
    exact ⟨s, rfl, by omega, rfl⟩

/-- The first part of a list. -/
theorem LAt.head {M : Type} {E : El M} {Pb : Nat → Prop} {w : World} {a : Option Addr} {n cap : Nat} {l : List M} (h : LAt E Pb w (.slice a n cap) l) (k : Nat) (hk : k ≤ l.length) : LAt E Pb w (.slice a k cap) (l.take k) := by
  obtain ⟨a', cap', hv, h1, h2, h3⟩ := h
  simp only [Value.slice.injEq] at hv
  obtain ⟨rfl, rfl, rfl⟩ := hv
  have hl : (l.take k).length = k := by rw [List.length_take]; omega
  refine ⟨a, cap, by rw [hl], by omega, h2, ?_⟩
  rcases h3 with h3 | ⟨g, off, ha, hg, hb, hc⟩
  · left; rw [h3]; simp
  · refine .inr ⟨g, off, ha, hg, hb, fun i x hi => hc i x ?_⟩
    rw [List.getElem?_take] at hi
    split at hi
    · exact hi
    · cases hi

theorem Try.infoI64s : (Try.prog.info? 3).map (·.size) = some 1 := by kernel_rfl

/-- An event of bounded length. -/
structure SmallE (x : MEvent) : Prop where
  name : x.2.1.size ≤ 40
  text : x.2.2.1.size ≤ 130
  dice : x.2.2.2.length ≤ 20
  ok : okN x.1
  oks : ∀ d ∈ x.2.2.2, okN d

structure CutE (Pb : Nat → Prop) (w : World) (e : Ending) (w' : World) : Prop where
  ex : ∃ (x : MEvent) (dv : Value), e = .returned (.agg #[.int .i64 x.1, .string x.2.1, .string x.2.2.1, dv]) ∧ LAt eI Pb w' dv x.2.2.2 ∧ SmallE x ∧ Keep (fun _ => False) w w'

set_option maxHeartbeats 2000000 in
theorem cutEvent_any {w : World} {Pb : Nat → Prop} {k : Int} {s t : ByteArray} {dv : Value} {l : List Int} (hL : LAt eI Pb w dv l) (hk : okN k) (hl : ∀ d ∈ l, okN d) :
    Calls Try.prog 13 #[.agg #[.int .i64 k, .string s, .string t, dv]] w (CutE Pb w) := by
  have HL := Lib.hid hL
  obtain ⟨ad, cd, rfl, hn0⟩ := hL.slice
  have hcd : l.length ≤ cd ∧ cd ≤ maxLen := by
    obtain ⟨_, _, hv, c1, c2, _⟩ := hL
    simp only [Value.slice.injEq] at hv
    obtain ⟨_, _, rfl⟩ := hv
    exact ⟨c1, c2⟩
  unfold maxLen at hcd
  obtain ⟨hc1, hc2⟩ := hcd
  obtain ⟨n, hn⟩ : ∃ n, n = l.length := ⟨_, rfl⟩
  rw [← hn] at HL hn0 hc1 ⊢
  have HN := Lib.hid hn
  have HOK := Lib.hid (And.intro hk hl)
  have HCA := Lib.hid (fun w : World => cut_any s 40 (by omega) (w := w))
  have HCB := Lib.hid (fun w : World => cut_any t 130 (by omega) (w := w))
  clear hL hn hk hl
  have e40 : ((40 : Nat) : Int) = 40 := rfl
  have e130 : ((130 : Nat) : Int) = 130 := rfl
  rw [e40] at HCA
  rw [e130] at HCB
  clear e40 e130
  have HI : Hid ((Try.prog.info? 44).map (·.size) = some 4) := Lib.hid Try.infoEvent
  have K2 : Hid (Keep (fun _ => False) w ((w.alloc (.cells #[.int .i64 k, .string s, .string t, .slice ad n cd] 44)).alloc (.cells #[.int .i64 0, .string ⟨#[]⟩, .string ⟨#[]⟩, .slice none 0 0] 44))) := Lib.hid (((Keep.refl _ w).alloc _).alloc _)
  have hA : ((w.alloc (.cells #[.int .i64 k, .string s, .string t, .slice ad n cd] 44)).alloc (.cells #[.int .i64 0, .string ⟨#[]⟩, .string ⟨#[]⟩, .slice none 0 0] 44)).heap[w.heap.size]? = some (.cells #[.int .i64 k, .string s, .string t, .slice ad n cd] 44 (0, 0)) :=
    (((Keep.refl (fun _ => False) (w.alloc _)).alloc _).block _ (by rw [World.size_alloc]; omega) (fun h => h)).trans (heap_alloc_new w _)
  have hB : ((w.alloc (.cells #[.int .i64 k, .string s, .string t, .slice ad n cd] 44)).alloc (.cells #[.int .i64 0, .string ⟨#[]⟩, .string ⟨#[]⟩, .slice none 0 0] 44)).heap[w.heap.size + 1]? = some (.cells #[.int .i64 0, .string ⟨#[]⟩, .string ⟨#[]⟩, .slice none 0 0] 44 (0, 0)) := by
    have h9 := heap_alloc_new (w.alloc (.cells #[.int .i64 k, .string s, .string t, .slice ad n cd] 44)) (.cells #[.int .i64 0, .string ⟨#[]⟩, .string ⟨#[]⟩, .slice none 0 0] 44)
    rwa [World.size_alloc] at h9
  have HA := Lib.hid hA
  have HB := Lib.hid hB
  clear hA hB
  go_enter Try.func13, Try.ntmps13
  go_wp2_with fail
  generalize ((w.alloc (.cells #[.int .i64 k, .string s, .string t, .slice ad n cd] 44)).alloc (.cells #[.int .i64 0, .string ⟨#[]⟩, .string ⟨#[]⟩, .slice none 0 0] 44)) = w2 at *
  obtain ⟨B, hBB⟩ : ∃ B, B = w.heap.size := ⟨_, rfl⟩
  rw [← hBB] at HA HB ⊢
  have HBB := Lib.hid hBB
  clear hBB
  have p1 : w2.cell? ⟨B, 1, none⟩ = some (.string s) := (cell_of_row _ _ 1 _ _ _ HA.out).trans rfl
  have p2 : w2.cell? ⟨B, 2, none⟩ = some (.string t) := (cell_of_row _ _ 2 _ _ _ HA.out).trans rfl
  have f1 := frozen_of_row w2 B 1 _ _ HA.out
  have f2 := frozen_of_row w2 B 2 _ _ HA.out
  go_region_with (first
    | (go_at_call 20; (with_reducible refine (HCA.out _).mono ?_); rintro e w9 ⟨s1, rfl, hs1, rfl⟩; have HS1 := Lib.hid hs1; clear hs1)
    | (go_at_call 20; (with_reducible refine (HCB.out _).mono ?_); rintro e w9 ⟨t1, rfl, ht1, rfl⟩; have HT1 := Lib.hid ht1; clear ht1))
  all_goals
    have k3 : Keep (fun b => b = B) w2 ((w2.setCell ⟨B, 1, none⟩ (.string s1)).setCell ⟨B, 2, none⟩ (.string t1)).drew := (((Keep.refl (fun b => b = B) w2).setCell _ _ (.inl rfl)).setCell _ _ (.inl rfl)).drew
    have HA3 : Hid ((((w2.setCell ⟨B, 1, none⟩ (.string s1)).setCell ⟨B, 2, none⟩ (.string t1)).drew).heap[B]? = some (.cells #[.int .i64 k, .string s1, .string t1, .slice ad n cd] 44 (0, 0))) := Lib.hid ((heap_setCell_at _ (heap_setCell_at _ HA.out)).trans rfl)
    have HB3 := Lib.hid ((k3.block _ (lt_of_block HB.out) (by omega)).trans HB.out)
    have K3 := Lib.hid (K2.out.trans k3 (fun b e => .inr (by have := HBB.out; omega)))
    clear p1 p2 f1 f2 k3
    generalize (((w2.setCell ⟨B, 1, none⟩ (.string s1)).setCell ⟨B, 2, none⟩ (.string t1)).drew) = w3 at *
    have p3 : w3.cell? ⟨B, 3, none⟩ = some (.slice ad n cd) := (cell_of_row _ _ 3 _ _ _ HA3.out).trans rfl
    have f3 := frozen_of_row w3 B 3 _ _ HA3.out
    by_cases h20 : 20 < n
    · have hi20 : 20 < (n : Int) := by omega
      have k4 : Keep (fun b => b = B) w3 (w3.setCell ⟨B, 3, none⟩ (.slice ad 20 cd)) := (Keep.refl (fun b => b = B) w3).setCell _ _ (.inl rfl)
      have HA4 : Hid ((w3.setCell ⟨B, 3, none⟩ (.slice ad 20 cd)).heap[B]? = some (.cells #[.int .i64 k, .string s1, .string t1, .slice ad 20 cd] 44 (0, 0))) := Lib.hid ((heap_setCell_at _ HA3.out).trans rfl)
      have HB4 := Lib.hid ((k4.block _ (lt_of_block HB3.out) (by omega)).trans HB3.out)
      have K4 := Lib.hid (K3.out.trans k4 (fun b e => .inr (by have := HBB.out; omega)))
      clear k4
      go_wp2_with (first
        | (refine wpList_load_arr Try.underlying44 rfl (by exact HI.out) rfl (.tmp 1) rfl B rfl HA4.out ?_)
        | (refine wpList_store_arr (by exact HI.out) (by rfl) (by simp [Value.oneCell']) rfl (.tmp 2) (.tmp 19) rfl (B + 1) rfl rfl HB4.out ?_; intro ws hws kss hss; have HW := Lib.hid hws; have HKS := Lib.hid kss; clear hws kss hss))
      refine bodyPost_ret (results_arr1 Try.results13 _ _ (B + 1) rfl HW.out Try.underlying44 rfl HI.out) rfl ?_
      have K5 := K4.out.trans HKS.out (fun b e => .inr (by have := HBB.out; omega))
      refine ⟨(k, s1, t1, l.take 20), .slice ad 20 cd, rfl, (HL.out.keep K5 (fun _ _ _ h => h)).head 20 (by have := HN.out; omega), ⟨HS1.out, HT1.out, by simp only [List.length_take]; omega, HOK.out.1, fun d hd => HOK.out.2 d (List.mem_of_mem_take hd)⟩, K5⟩
    · have hi20 : (n : Int) ≤ 20 := by omega
      go_wp2_with (first
        | (refine wpList_load_arr Try.underlying44 rfl (by exact HI.out) rfl (.tmp 1) rfl B rfl HA3.out ?_)
        | (refine wpList_store_arr (by exact HI.out) (by rfl) (by simp [Value.oneCell']) rfl (.tmp 2) (.tmp 19) rfl (B + 1) rfl rfl HB3.out ?_; intro ws hws kss hss; have HW := Lib.hid hws; have HKS := Lib.hid kss; clear hws kss hss))
      refine bodyPost_ret (results_arr1 Try.results13 _ _ (B + 1) rfl HW.out Try.underlying44 rfl HI.out) rfl ?_
      have K5 := K3.out.trans HKS.out (fun b e => .inr (by have := HBB.out; omega))
      have h9 := HL.out.keep K5 (fun _ _ _ h => h)
      refine ⟨(k, s1, t1, l), .slice ad n cd, rfl, h9, ⟨HS1.out, HT1.out, by have := HN.out; simp only; omega, HOK.out.1, HOK.out.2⟩, K5⟩

end Go.Proofs.Ytpefkellcigpkaa.Cd
