/- Files on blocks: the statements' own beginning. -/
import Derived.Test.YtdkigiemhkoijaaDoorFile5
namespace Go.Proofs.YtdkigiemhkoijaaDoor.Ino
open Go.RowKit Go.Maps Go.Proofs.YtdkigiemhkoijaaDoor
set_option maxRecDepth 100000

/-- What was just laid, as a slice that may be read. -/
theorem seen_lit {w : World} {size : Nat} {t : TypeId} {f : Nat × Nat} (cs : Array Value) (b n c : Nat) (hb : b = w.heap.size) (hn : cs.size = n * size) (hc : n ≤ c) (hm : c ≤ maxLen) : Seen (w.alloc (.cells cs t f)) size (.slice (some ⟨b, 0, none⟩) n c) n cs.toList := by
  subst hb
  refine ⟨by simpa using hn, _, c, rfl, hc, hm, .inr ⟨w.heap.size, 0, rfl, by simp, fun j u hu => ?_⟩⟩
  rw [Nat.zero_add, World.cell?_alloc_mark]
  simpa using hu

/-- A store made by a statement: its map, then itself. -/
theorem fresh_sto (w : World) (most : Nat) (z : Int) (hz : z = (most : Int)) (hm : most < 100000) : IsSto ((w.alloc (.map #[] 0)).alloc (.cells #[.map (some w.heap.size), .int .i64 z, .int .i64 0, .bool false] 27)) (fun x => x = w.heap.size + 1 ∨ x = w.heap.size) (w.heap.size + 1) w.heap.size (.map []) (Sto.made most) := by
  subst hz
  refine IsSto.made ?_ ?_ hm
  · have := heap_alloc_new (w.alloc (.map #[] 0)) (.cells #[.map (some w.heap.size), .int .i64 (most : Int), .int .i64 0, .bool false] 27)
    simpa using this
  · exact heap_past (heap_alloc_new w _)

theorem fileB_zero (S : Sto) (i : Nat) : fileB S zero203 i = 0 := by
  rw [fileB, blkOf, if_pos (tg_zero203 _), zero512_getD]

/-- How many of its map a store tells. -/
theorem sto_len {w : World} {F : Nat → Prop} {p s : Nat} {S : Sto} {size : Nat} {T : List Nat} (h : Fl w F p s S size T) : ∃ b, w.cell? ⟨s, 0, none⟩ = some (.map (some b)) ∧ ∀ ty, (Builtin.len_ #[25] ty #[.map (some b)]).run Tryd.prog w = .ok (.int .i64 (S.c : Int)) w := by
  obtain ⟨b, D, hs⟩ := h.file.sto
  refine ⟨b, (hs.cell 0).trans rfl, fun ty => ?_⟩
  have := hs.own.len Tryd.underlying25 ty
  rw [hs.size] at this
  exact this

theorem fits_one {most a n q : Nat} (hq : q < 200) (ha : a / 512 = q) (hn : (a + n + 511) / 512 = q + 1) : fitsW (Sto.made most) zero203 a n ↔ want1 q ≤ most := by
  unfold fitsW
  rw [ha, hn]
  have h := (grow_one (Sto.made most).nxt q hq).2.2
  rw [h]
  simp only [Sto.made]
  omega

/-- The first Write of a file, into one part. -/
theorem fl_first {w : World} {F : Nat → Prop} {p s most : Nat} (h : Fl w F p s (Sto.made most) 0 zero203) (at_ q : Nat) {v : Value} {b : List UInt8} (hb : Seen w 1 v b.length (bcells b)) (hb0 : 0 < b.length) (hq : q < 200) (ha : at_ / 512 = q) (hn : (at_ + b.length + 511) / 512 = q + 1) (hm : want1 q ≤ most) :
    Calls Tryd.prog 6 #[.pointer (some ⟨p, 0, none⟩), .int .i64 (at_ : Int), v] w fun e w' => e = .returned .nilIface ∧ ∃ F' S' T', Fl w' F' p s S' (at_ + b.length) T' ∧ S'.most = most ∧ S'.c = want1 q ∧ S'.nxt = want1 q ∧ cntB T' 203 = want1 q ∧ T' = (growTo q (q + 1) zero203 0 203).1 ∧
      (∀ i, i < 102400 → fileB S' T' i = if at_ ≤ i ∧ i < at_ + b.length then b.getD (i - at_) 0 else 0) ∧ Keep (fun x => F x ∨ x = p) w w' ∧ ∀ x, F' x → F x ∨ w.heap.size ≤ x := by
  refine (fl_write h (by simp [Sto.made]) at_ hb (by omega) hb0 (by omega) ((fits_one hq ha hn).2 hm)).mono ?_
  rintro e w' ⟨rfl, F', S', T', h1, h2, h3, h4, h5, h6, h7, _, h8, h9, h10⟩
  have hg := grow_one (Sto.made most).nxt q hq
  rw [ha, hn] at h6 h7
  rw [← h6, ← h7] at hg
  rw [Nat.zero_max] at h1
  refine ⟨rfl, F', S', T', h1, h2, by rw [h5, hg.2.1], by rw [hg.2.2]; simp [Sto.made], hg.2.1, h7, fun i hi => ?_, h9, h10⟩
  rw [h8 i hi]
  split
  · rfl
  · exact fileB_zero _ _

theorem begun_keep {w w1 w2 w3 w4 : World} {ob : Obj} (K0 : Keep (fun _ => False) w w1) (S0 : w1.heap.size = w.heap.size + 2) (K2 : Keep (fun _ => False) w1 w2) (K3 : Keep (fun x => (x = w.heap.size + 1 ∨ x = w.heap.size) ∨ x = w1.heap.size) (w2.alloc ob) w3) (K4 : Keep (fun _ => False) w3 w4) : Keep (fun _ => False) w w4 :=
  (((K0.trans K2 (fun _ h => h.elim)).alloc ob).trans K3 (fun x hx => .inr (by omega))).trans K4 (fun _ h => h.elim)

theorem begun5_any {w : World} : Calls Tryd.prog 4 #[] w fun e w' => e = .returned (.bool true) ∧ Keep (fun _ => False) w w' := by
  have hmm := @run_makeMap Tryd.prog
  have HS := Lib.hid (fresh_sto w 5 5 rfl (by omega))
  have K0 : Hid (Keep (fun _ => False) w ((w.alloc (.map #[] 0)).alloc (.cells #[.map (some w.heap.size), .int .i64 5, .int .i64 0, .bool false] 27))) := Lib.hid (((Keep.refl _ w).alloc _).alloc _)
  have S0 : Hid (((w.alloc (.map #[] 0)).alloc (.cells #[.map (some w.heap.size), .int .i64 5, .int .i64 0, .bool false] 27)).heap.size = w.heap.size + 2) := Lib.hid (by simp)
  go_enter Tryd.func4, Tryd.ntmps4
  go_wp2_with fail
  refine (fl_new HS.out rfl).mono ?_
  generalize (w.alloc (.map #[] 0)).alloc (.cells #[.map (some w.heap.size), .int .i64 5, .int .i64 0, .bool false] 27) = w1 at *
  rintro e w2 ⟨rfl, h2, k2⟩
  have H2 := Lib.hid h2; have K2 := Lib.hid k2
  clear h2 k2
  go_wp2_with fail
  refine (fl_first (b := [1, 2]) (H2.out.keep0 ((Keep.refl _ w2).alloc _)) 600 1 (seen_lit #[.int .u8 1, .int .u8 2] _ 2 2 rfl rfl (by omega) (by simp [maxLen])) (by simp) (by omega) rfl rfl (by simp [want1])).mono ?_
  rintro e w3 ⟨rfl, F3, S3, T3, h3, _, hc3, _, hb3, _, hf3, k3, _⟩
  have H3 := Lib.hid h3; have HC3 := Lib.hid hc3; have HB3 := Lib.hid hb3; have K3 := Lib.hid k3
  have hf : fileL S3 T3 599 3 = [0, 1, 2] := by
    simp only [fileL, List.range, List.range.loop, List.map_cons, List.map_nil]
    rw [hf3 _ (by omega), hf3 _ (by omega), hf3 _ (by omega)]
    rfl
  have HF3 := Lib.hid hf
  clear h3 hc3 hb3 k3 hf3 hf
  go_wp2_with (go_at_call 11; refine (fl_read H3.out 599 9 3 rfl).mono ?_; rintro e w4 ⟨v4, rfl, h4, k4⟩; have H4 := Lib.hid h4; have K4 := Lib.hid k4; have HF4 := Lib.hid (H3.out.keep0 k4); rw [HF3.out] at h4; obtain ⟨g4, o4, c4, rfl, _, _⟩ := h4.full (by omega); have b0 := h4.cellAt 0 (by omega); have b2 := h4.cellAt 2 (by omega); simp [bcells] at b0 b2; clear h4 k4)
  obtain ⟨b4, c0, hlen⟩ := sto_len HF4.out
  have hll : ∀ ty, (Builtin.len_ #[25] ty #[.map (some b4)]).run Tryd.prog w4 = .ok (.int .i64 1) w4 := fun ty => by rw [hlen, HC3.out]; rfl
  have HSZ : Hid (Calls Tryd.prog 9 #[.pointer (some ⟨w1.heap.size, 0, none⟩)] w4 fun e w' => e = .returned (.int .i64 602) ∧ w4 = w') := Lib.hid (size_any HF4.out.file)
  have HBK : Hid (Calls Tryd.prog 10 #[.pointer (some ⟨w1.heap.size, 0, none⟩)] w4 fun e w' => e = .returned (.int .i64 1) ∧ w4 = w') := Lib.hid (by
    have h := blocks_any HF4.out.file
    rw [HB3.out] at h
    exact h)
  clear hlen
  go_wp2_with (first | (go_at_call 9; refine HSZ.out.mono ?_; rintro e w5 ⟨rfl, rfl⟩) | (go_at_call 10; refine HBK.out.mono ?_; rintro e w5 ⟨rfl, rfl⟩))
  go_ret
  exact ⟨rfl, begun_keep K0.out S0.out K2.out K3.out K4.out⟩

end Go.Proofs.YtdkigiemhkoijaaDoor.Ino
