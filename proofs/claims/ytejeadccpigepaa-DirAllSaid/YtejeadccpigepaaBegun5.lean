/- Files on blocks: the statements' own beginning. -/
import Derived.Test.YtejeadccpigepaaFile5
namespace Go.Proofs.Ytejeadccpigepaa.Ino
open Go.RowKit Go.Maps Go.Proofs.Ytejeadccpigepaa
set_option maxRecDepth 100000

/-- What was just laid, as a slice that may be read. -/
theorem seen_lit {w : World} {size : Nat} {t : TypeId} {f : Nat × Nat} (cs : Array Value) (b n c : Nat) (hb : b = w.heap.size) (hn : cs.size = n * size) (hc : n ≤ c) (hm : c ≤ maxLen) : Seen (w.alloc (.cells cs t f)) size (.slice (some ⟨b, 0, none⟩) n c) n cs.toList := by
  subst hb
  refine ⟨by simpa using hn, _, c, rfl, hc, hm, .inr ⟨w.heap.size, 0, rfl, by simp, fun j u hu => ?_⟩⟩
  rw [Nat.zero_add, World.cell?_alloc_mark]
  simpa using hu

/-- A store made by a statement: its map, then itself. -/
theorem fresh_sto (w : World) (most : Nat) (z : Int) (hz : z = (most : Int)) (hm : most < 100000) : IsSto ((w.alloc (.map #[] 0)).alloc (.cells #[.map (some w.heap.size), .int .i64 z, .int .i64 0, .bool false] 27)) (fun x => x = w.heap.size + 1 ∨ x = w.heap.size) (w.heap.size + 1) w.heap.size (.map []) (Sto.made most) := by
  subst hz
  refine IsSto.made ?_ ?_ hm
  · have := heap_alloc_new (w.alloc (.map #[] 0)) (.cells #[.map (some w.heap.size), .int .i64 (most : Int), .int .i64 0, .bool false] 27)
    simpa using this
  · exact heap_past (heap_alloc_new w _)

theorem fileB_zero (S : Sto) (i : Nat) : fileB S zero203 i = 0 := by
  rw [fileB, blkOf, if_pos (tg_zero203 _), zero512_getD]

/-- How many of its map a store tells. -/
theorem sto_len {w : World} {F : Nat → Prop} {p s : Nat} {S : Sto} {size : Nat} {T : List Nat} (h : Fl w F p s S size T) : ∃ b, w.cell? ⟨s, 0, none⟩ = some (.map (some b)) ∧ ∀ ty, (Builtin.len_ #[25] ty #[.map (some b)]).run Try.prog w = .ok (.int .i64 (S.c : Int)) w := by
  obtain ⟨b, D, hs⟩ := h.file.sto
  refine ⟨b, (hs.cell 0).trans rfl, fun ty => ?_⟩
  have := hs.own.len Try.underlying25 ty
  rw [hs.size] at this
  exact this

theorem fits_one {most a n q : Nat} (hq : q < 200) (ha : a / 512 = q) (hn : (a + n + 511) / 512 = q + 1) : fitsW (Sto.made most) zero203 a n ↔ want1 q ≤ most := by
  unfold fitsW
  rw [ha, hn]
  have h := (grow_one (Sto.made most).nxt q hq).2.2
  rw [h]
  simp only [Sto.made]
  omega

/-- The first Write of a file, into one part. -/
theorem fl_first {w : World} {F : Nat → Prop} {p s most : Nat} (h : Fl w F p s (Sto.made most) 0 zero203) (at_ q : Nat) {v : Value} {b : List UInt8} (hb : Seen w 1 v b.length (bcells b)) (hb0 : 0 < b.length) (hq : q < 200) (ha : at_ / 512 = q) (hn : (at_ + b.length + 511) / 512 = q + 1) (hm : want1 q ≤ most) :
    Calls Try.prog 30 #[.pointer (some ⟨p, 0, none⟩), .int .i64 (at_ : Int), v] w fun e w' => e = .returned .nilIface ∧ ∃ F' S' T', Fl w' F' p s S' (at_ + b.length) T' ∧ S'.most = most ∧ S'.c = want1 q ∧ S'.nxt = want1 q ∧ cntB T' 203 = want1 q ∧ T' = (growTo q (q + 1) zero203 0 203).1 ∧
      (∀ i, i < 102400 → fileB S' T' i = if at_ ≤ i ∧ i < at_ + b.length then b.getD (i - at_) 0 else 0) ∧ Keep (fun x => F x ∨ x = p) w w' ∧ ∀ x, F' x → F x ∨ w.heap.size ≤ x := by
  refine (fl_write h (by simp [Sto.made]) at_ hb (by omega) hb0 (by omega) ((fits_one hq ha hn).2 hm)).mono ?_
  rintro e w' ⟨rfl, F', S', T', h1, h2, h3, h4, h5, h6, h7, _, h8, h9, h10⟩
  have hg := grow_one (Sto.made most).nxt q hq
  rw [ha, hn] at h6 h7
  rw [← h6, ← h7] at hg
  rw [Nat.zero_max] at h1
  refine ⟨rfl, F', S', T', h1, h2, by rw [h5, hg.2.1], by rw [hg.2.2]; simp [Sto.made], hg.2.1, h7, fun i hi => ?_, h9, h10⟩
  rw [h8 i hi]
  split
  · rfl
  · exact fileB_zero _ _

theorem begun_keep {w w1 w2 w3 w4 : World} {ob : Obj} (K0 : Keep (fun _ => False) w w1) (S0 : w1.heap.size = w.heap.size + 2) (K2 : Keep (fun _ => False) w1 w2) (K3 : Keep (fun x => (x = w.heap.size + 1 ∨ x = w.heap.size) ∨ x = w1.heap.size) (w2.alloc ob) w3) (K4 : Keep (fun _ => False) w3 w4) : Keep (fun _ => False) w w4 :=
  (((K0.trans K2 (fun _ h => h.elim)).alloc ob).trans K3 (fun x hx => .inr (by omega))).trans K4 (fun _ h => h.elim)

end Go.Proofs.Ytejeadccpigepaa.Ino
