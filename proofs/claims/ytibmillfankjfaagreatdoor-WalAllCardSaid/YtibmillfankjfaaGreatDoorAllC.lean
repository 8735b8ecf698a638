/- WalAll: an operation that marks, goes back, opens anew, syncs. -/
import Derived.Test.YtibmillfankjfaaGreatDoorAllB
namespace Go.Proofs.YtibmillfankjfaaGreatDoor
open Go.RowKit
set_option maxRecDepth 100000

theorem RefAt.turnS {N : Nat → Prop} {w w' : World} {r : Nat} {vh vw vs vs' : Value} {us : List Value} {ks : List (Nat × Value)} {H : List ByteArray} {W : Grp} (h : RefAt N w r vh vw vs us ks H W) (k : Keep (fun x => x = r) w w')
    (hh : w'.heap[r]? = some (.cells #[vh, vw, vs'] 64 (0, 0))) : RefAt (more N w w') w' r vh vw vs' us ks H W :=
  ⟨hh, (h.homes.keep k (fun x hx e => h.out (e ▸ hx))).mono (fun _ h => .inl h), (h.wait.keep k (fun x hx e => h.out (e ▸ hx))).mono (fun _ h => .inl h), fun hr => by
    rcases hr with hr | hr
    · exact h.out hr
    · have := lt_of_block h.head; omega⟩

theorem AM.later {w : World} {p q : Nat} {S : LogS} {n m r B : Nat} {N : Nat → Prop} {vh vw vs : Value} {us : List Value} {ks ks2 : List (Nat × Value)} {H : List ByteArray} {W W2 : Grp} {wr : World}
    (h : AM w (fun M wr => Two M w wr p q S n) r B q N vh vw vs us ks ks2 H W W2 wr) (hm : n ≤ m) : AM w (fun M wr => Two M w wr p q S m) r B q N vh vw vs us ks ks2 H W W2 wr := by
  refine ⟨h.ref, h.saved, h.nlt, h.rnew, h.var, h.bnew, ?_⟩
  obtain ⟨F, a, b, c, h1, h2⟩ := h.side.ex
  exact ⟨⟨F, a, b, c, ⟨h1.head, h1.disk.mono hm, h1.wait, h1.mark, h1.lost, h1.ab, h1.ac, h1.bc, h1.fq, h1.fa, h1.fb, h1.fc, ⟨h1.ok.len, h1.ok.len2, h1.ok.wait, h1.ok.mark, h1.ok.wlen, h1.ok.mlen, Nat.le_trans h1.ok.llen hm⟩⟩, h2⟩, h.side.keep, h.side.tab⟩

/-- What waits has been copied to what is saved. -/
theorem saved_turn {w w1 w2 : World} {p q : Nat} {S : LogS} {n r B : Nat} {N : Nat → Prop} {vh vw vs v8 : Value} {us : List Value} {ks ks2 : List (Nat × Value)} {H : List ByteArray} {W W2 : Grp}
    (h : AM w (fun M wr => Two M w wr p q S n) r B q N vh vw vs us ks ks2 H W W2 w1) (k : Keep (fun _ => False) w1 w2) (hr : Row w2 93 2 v8 W.length (wcells ks)) (hg : ∀ b, v8.ownBlock = some b → w1.heap.size ≤ b ∧ b < w2.heap.size) :
    AM w (fun M wr => Two M w wr p q S n) r B q (more N w1 (w2.setCell ⟨r, 2, none⟩ v8)) vh vw v8 us ks ks H W W (w2.setCell ⟨r, 2, none⟩ v8) := by
  have hlt := lt_of_block h.ref.head
  have hh := (k.block r hlt (fun h => h)).trans h.ref.head
  have ks' : Keep (fun x => x = r) w2 (w2.setCell ⟨r, 2, none⟩ v8) := (Keep.refl (fun x => x = r) w2).setCell _ _ (.inl rfl)
  have kk : Keep (fun x => x = r) w1 (w2.setCell ⟨r, 2, none⟩ v8) := (k.mono (fun _ _ h => h.elim)).trans ks' (fun _ h => .inl h)
  have hN : ∀ x, N x → ¬ x = r := fun x hx e => h.ref.out (e ▸ hx)
  have hrow := hr.keep ks' (fun b hb e => by have := hg b hb; omega)
  have ho : InN (more N w1 (w2.setCell ⟨r, 2, none⟩ v8)) v8 := fun b hb => .inr (by have := hg b hb; simp; exact this)
  refine h.turn (side_two w p q S n) (h.ref.turnS kk ?_) (h.ref.wait.copied kk hN hrow ho) kk
  rw [heap_setCell_at _ hh]; rfl

/-- What was saved has been copied to what waits. -/
theorem back_turn {w w1 w2 : World} {p q : Nat} {S : LogS} {n r B : Nat} {N : Nat → Prop} {vh vw vs v8 : Value} {us : List Value} {ks ks2 : List (Nat × Value)} {H : List ByteArray} {W W2 : Grp}
    (h : AM w (fun M wr => Two M w wr p q S n) r B q N vh vw vs us ks ks2 H W W2 w1) (k : Keep (fun _ => False) w1 w2) (hr : Row w2 93 2 v8 W2.length (wcells ks2)) (hg : ∀ b, v8.ownBlock = some b → w1.heap.size ≤ b ∧ b < w2.heap.size) :
    AM w (fun M wr => Two M w wr p q S n) r B q (more N w1 (w2.setCell ⟨r, 1, none⟩ v8)) vh v8 vs us ks2 ks2 H W2 W2 (w2.setCell ⟨r, 1, none⟩ v8) := by
  have hlt := lt_of_block h.ref.head
  have hh := (k.block r hlt (fun h => h)).trans h.ref.head
  have ks' : Keep (fun x => x = r) w2 (w2.setCell ⟨r, 1, none⟩ v8) := (Keep.refl (fun x => x = r) w2).setCell _ _ (.inl rfl)
  have kk : Keep (fun x => x = r) w1 (w2.setCell ⟨r, 1, none⟩ v8) := (k.mono (fun _ _ h => h.elim)).trans ks' (fun _ h => .inl h)
  have hN : ∀ x, N x → ¬ x = r := fun x hx e => h.ref.out (e ▸ hx)
  have hrow := hr.keep ks' (fun b hb e => by have := hg b hb; omega)
  have ho : InN (more N w1 (w2.setCell ⟨r, 1, none⟩ v8)) v8 := fun b hb => .inr (by have := hg b hb; simp; exact this)
  refine h.turn (side_two w p q S n) (h.ref.turnW kk ?_ (h.saved.copied kk hN hrow ho)) (h.still kk) kk
  rw [heap_setCell_at _ hh]; rfl

set_option maxHeartbeats 4000000 in
theorem one_mark {w wr : World} {p r B i : Nat} (h : ARel w p r B i wr) (hi : i < 30) (ii : Int) (au : Option Addr) (lu capu : Nat) :
    Calls Tryz.prog 8 #[.pointer (some ⟨p, 0, none⟩), .pointer (some ⟨B, 0, none⟩), .pointer (some ⟨r, 0, none⟩), .agg #[.int .i64 2, .int .i64 ii, .slice au lu capu]] wr fun e w' => e = .returned (.bool true) ∧ ARel w p r B (i + 1) w' := by
  obtain ⟨i1, hi1, hy0, hy1, hy2⟩ := info_parts Tryz.infoWrite
  have HJ := Lib.hid hi1; have HY0 := Lib.hid hy0; have HY1 := Lib.hid hy1; have HY2 := Lib.hid hy2
  obtain ⟨q, N, vh, vw, vs, us, ks, ks2, H, W, W2, g, m, D, hm, hp⟩ := h.ex
  have HM := Lib.hid (hm.go (side_two w p q _ _) ((Keep.refl (fun _ => False) wr).alloc (.cells #[.int .i64 2, .int .i64 ii, .slice au lu capu] 37))); have HP := Lib.hid hp
  have b0 : (wr.alloc (.cells #[.int .i64 2, .int .i64 ii, .slice au lu capu] 37)).cell? ⟨B, 0, none⟩ = some (.pointer (some ⟨q, 0, none⟩)) := (cell_of_row _ _ _ _ _ _ HM.out.var).trans rfl
  clear h hm hp hi1 hy0 hy1 hy2
  go_enter Tryz.func8, Tryz.ntmps8
  go_wp2_with fail
  refine (mark_t HM.out.side HM.out.lt).mono ?_
  rintro e w1 ⟨rfl, h1, k1⟩
  have HM1 := Lib.hid (HM.out.log (T' := fun M wr => Two M w wr p q ⟨D, g, g, []⟩ (50 + 100 * i)) k1 h1)
  obtain ⟨aw, capw, evw, hcw, hcw2⟩ := HM1.out.ref.wait.row.slice
  subst evw
  unfold maxLen at hcw2
  have c1 := HM1.out.ref.cell 1
  have f2 := HM1.out.ref.free 2
  simp only [List.getElem?_toArray, List.getElem?_cons_zero, List.getElem?_cons_succ] at c1
  have HV := Lib.hid HM1.out.ref.wait
  have hwl : W.length ≤ 40 := by have := HP.out.wlen; omega
  obtain ⟨n, hn⟩ : ∃ n, n = W.length := ⟨_, rfl⟩
  have HNW := Lib.hid hn
  rw [← hn] at c1 hcw hwl
  have hrow : Row w1 93 2 (.slice aw n capw) n (wcells ks) := by have := HV.out.row; rw [← HNW.out] at this; exact this
  have HROW := Lib.hid hrow
  clear h1 k1 hn hrow
  go_wp2_with (at_builtin; go_loud (refine wpList_append_row _ rfl (.const (.slice none 0 0)) (.tmp 111) rfl Tryz.underlying62 HJ.out HY0.out HY1.out HY2.out rfl rfl (Row.nil _ _ _) rfl (HROW.out.src Tryz.underlying62 HV.out.one) (by unfold maxLen; omega) (by omega) ?k1))
  case k1 =>
    intro v8 w2 r1 r2 r3 _
    obtain ⟨a8, cap8, rfl, hc8, _⟩ := r1.slice
    have k2 : Keep (fun _ => False) w1 w2 := r2.mono (fun x _ hx => by simp [Value.ownBlock] at hx)
    have g8 : ∀ b, (Value.slice a8 n cap8).ownBlock = some b → w1.heap.size ≤ b ∧ b < w2.heap.size := fun b hb => by
      rcases r3 b hb with h | h
      · simp [Value.ownBlock] at h
      · exact h
    have HT := Lib.hid (saved_turn (v8 := .slice a8 n cap8) HM1.out k2 (by rw [← HNW.out]; exact r1) g8)
    have hrh := (k2.block r (lt_of_block HM1.out.ref.head) (fun h => h)).trans HM1.out.ref.head
    have hrc : w2.cell? ⟨r, 2, none⟩ = some vs := (cell_of_row _ _ _ _ _ _ hrh).trans rfl
    have hrf : w2.frozen? ⟨r, 2, none⟩ = false := frozen_of_row _ _ _ _ _ hrh
    clear r1 r2 r3 k2 g8 hrh
    go_wp2
    go_ret
    exact ⟨rfl, ⟨_, _, _, _, _, _, _, _, _, _, _, _, _, _, HT.out.later (by omega), HP.out.mark⟩⟩

set_option maxHeartbeats 4000000 in
theorem one_back {w wr : World} {p r B i : Nat} (h : ARel w p r B i wr) (hi : i < 30) (ii : Int) (au : Option Addr) (lu capu : Nat) :
    Calls Tryz.prog 8 #[.pointer (some ⟨p, 0, none⟩), .pointer (some ⟨B, 0, none⟩), .pointer (some ⟨r, 0, none⟩), .agg #[.int .i64 3, .int .i64 ii, .slice au lu capu]] wr fun e w' => e = .returned (.bool true) ∧ ARel w p r B (i + 1) w' := by
  obtain ⟨i1, hi1, hy0, hy1, hy2⟩ := info_parts Tryz.infoWrite
  have HJ := Lib.hid hi1; have HY0 := Lib.hid hy0; have HY1 := Lib.hid hy1; have HY2 := Lib.hid hy2
  obtain ⟨q, N, vh, vw, vs, us, ks, ks2, H, W, W2, g, m, D, hm, hp⟩ := h.ex
  have HM := Lib.hid (hm.go (side_two w p q _ _) ((Keep.refl (fun _ => False) wr).alloc (.cells #[.int .i64 3, .int .i64 ii, .slice au lu capu] 37))); have HP := Lib.hid hp
  have b0 : (wr.alloc (.cells #[.int .i64 3, .int .i64 ii, .slice au lu capu] 37)).cell? ⟨B, 0, none⟩ = some (.pointer (some ⟨q, 0, none⟩)) := (cell_of_row _ _ _ _ _ _ HM.out.var).trans rfl
  clear h hm hp hi1 hy0 hy1 hy2
  go_enter Tryz.func8, Tryz.ntmps8
  go_wp2_with fail
  refine (back_t HM.out.side HM.out.lt).mono ?_
  rintro e w1 ⟨rfl, h1, k1⟩
  have HM1 := Lib.hid (HM.out.log (T' := fun M wr => Two M w wr p q ⟨D, m, m, []⟩ (50 + 100 * i)) k1 h1)
  obtain ⟨aw, capw, evw, hcw, hcw2⟩ := HM1.out.saved.row.slice
  subst evw
  unfold maxLen at hcw2
  have c1 := HM1.out.ref.cell 2
  have f2 := HM1.out.ref.free 1
  simp only [List.getElem?_toArray, List.getElem?_cons_zero, List.getElem?_cons_succ] at c1
  have HV := Lib.hid HM1.out.saved
  have hwl : W2.length ≤ 40 := by have := HP.out.wlen2; omega
  obtain ⟨n, hn⟩ : ∃ n, n = W2.length := ⟨_, rfl⟩
  have HNW := Lib.hid hn
  rw [← hn] at c1 hcw hwl
  have hrow : Row w1 93 2 (.slice aw n capw) n (wcells ks2) := by have := HV.out.row; rw [← HNW.out] at this; exact this
  have HROW := Lib.hid hrow
  clear h1 k1 hn hrow
  go_wp2_with (at_builtin; go_loud (refine wpList_append_row _ rfl (.const (.slice none 0 0)) (.tmp 123) rfl Tryz.underlying62 HJ.out HY0.out HY1.out HY2.out rfl rfl (Row.nil _ _ _) rfl (HROW.out.src Tryz.underlying62 HV.out.one) (by unfold maxLen; omega) (by omega) ?k1))
  case k1 =>
    intro v8 w2 r1 r2 r3 _
    obtain ⟨a8, cap8, rfl, hc8, _⟩ := r1.slice
    have k2 : Keep (fun _ => False) w1 w2 := r2.mono (fun x _ hx => by simp [Value.ownBlock] at hx)
    have g8 : ∀ b, (Value.slice a8 n cap8).ownBlock = some b → w1.heap.size ≤ b ∧ b < w2.heap.size := fun b hb => by
      rcases r3 b hb with h | h
      · simp [Value.ownBlock] at h
      · exact h
    have HT := Lib.hid (back_turn (v8 := .slice a8 n cap8) HM1.out k2 (by rw [← HNW.out]; exact r1) g8)
    have hrh := (k2.block r (lt_of_block HM1.out.ref.head) (fun h => h)).trans HM1.out.ref.head
    have hrc : w2.cell? ⟨r, 1, none⟩ = some vw := (cell_of_row _ _ _ _ _ _ hrh).trans rfl
    have hrf : w2.frozen? ⟨r, 1, none⟩ = false := frozen_of_row _ _ _ _ _ hrh
    clear r1 r2 r3 k2 g8 hrh
    go_wp2
    go_ret
    exact ⟨rfl, ⟨_, _, _, _, _, _, _, _, _, _, _, _, _, _, HT.out.later (by omega), HP.out.back⟩⟩

/-- The disk has been opened anew, and the law's own variable has turned. -/
theorem open_turn {w wr w1 : World} {p q q' : Nat} {S S' : LogS} {n n' r B : Nat} {N : Nat → Prop} {vh vw vs : Value} {us : List Value} {ks ks2 : List (Nat × Value)} {H : List ByteArray} {W W2 : Grp}
    (h : AM w (fun M wr => Two M w wr p q S n) r B q N vh vw vs us ks ks2 H W W2 wr) (k : Keep (fun x => ¬ OwnA N r B x) wr w1) (h1 : Two (OwnA N r B) w w1 p q' S' n') :
    AM w (fun M wr => Two M w wr p q' S' n') r B q' N vh vw vs us ks ks2 H W W2 (w1.setCell ⟨B, 0, none⟩ (.pointer (some ⟨q', 0, none⟩))) :=
  (h.log (T' := fun M wr => Two M w wr p q' S' n') k h1).turnB (side_two w p q' S' n') q'

/-- Nothing waits, nothing is saved. -/
theorem none_turn {w w1 : World} {p q : Nat} {S : LogS} {n r B : Nat} {N : Nat → Prop} {vh vw vs : Value} {us : List Value} {ks ks2 : List (Nat × Value)} {H : List ByteArray} {W W2 : Grp}
    (h : AM w (fun M wr => Two M w wr p q S n) r B q N vh vw vs us ks ks2 H W W2 w1) :
    AM w (fun M wr => Two M w wr p q S n) r B q (more N w1 ((w1.setCell ⟨r, 1, none⟩ (.slice none 0 0)).setCell ⟨r, 2, none⟩ (.slice none 0 0))) vh (.slice none 0 0) (.slice none 0 0) us [] [] H [] [] ((w1.setCell ⟨r, 1, none⟩ (.slice none 0 0)).setCell ⟨r, 2, none⟩ (.slice none 0 0)) := by
  have kk : Keep (fun x => x = r) w1 ((w1.setCell ⟨r, 1, none⟩ (.slice none 0 0)).setCell ⟨r, 2, none⟩ (.slice none 0 0)) := ((Keep.refl (fun x => x = r) w1).setCell _ _ (.inl rfl)).setCell _ _ (.inl rfl)
  have hn : ∀ (M : Nat → Prop) (wx : World), WaitAt M wx (.slice none 0 0) [] [] := fun M wx => ⟨Row.nil _ _ _, fun b hb => by simp [Value.ownBlock] at hb, rfl, fun k hk => by simp at hk⟩
  have hh : ((w1.setCell ⟨r, 1, none⟩ (.slice none 0 0)).setCell ⟨r, 2, none⟩ (.slice none 0 0)).heap[r]? = some (.cells #[vh, .slice none 0 0, .slice none 0 0] 64 (0, 0)) := by
    rw [heap_setCell_at _ (heap_setCell_at _ h.ref.head)]; rfl
  refine h.turn (side_two w p q S n) ⟨hh, (h.ref.homes.keep kk (fun x hx e => h.ref.out (e ▸ hx))).mono (fun _ h => .inl h), hn _ _, fun hr => ?_⟩ (hn _ _) kk
  rcases hr with hr | hr
  · exact h.ref.out hr
  · have := lt_of_block h.ref.head; omega

set_option maxHeartbeats 4000000 in
theorem one_open {w wr : World} {p r B i : Nat} (h : ARel w p r B i wr) (hi : i < 30) (kd ii : Int) (h0 : kd ≠ 0) (h1 : kd ≠ 1) (h2 : kd ≠ 2) (h3 : kd ≠ 3) (au : Option Addr) (lu capu : Nat) :
    Calls Tryz.prog 8 #[.pointer (some ⟨p, 0, none⟩), .pointer (some ⟨B, 0, none⟩), .pointer (some ⟨r, 0, none⟩), .agg #[.int .i64 kd, .int .i64 ii, .slice au lu capu]] wr fun e w' => e = .returned (.bool true) ∧ ARel w p r B (i + 1) w' := by
  obtain ⟨q, N, vh, vw, vs, us, ks, ks2, H, W, W2, g, m, D, hm, hp⟩ := h.ex
  have HM := Lib.hid (hm.go (side_two w p q _ _) ((Keep.refl (fun _ => False) wr).alloc (.cells #[.int .i64 kd, .int .i64 ii, .slice au lu capu] 37))); have HP := Lib.hid hp
  have b0 : (wr.alloc (.cells #[.int .i64 kd, .int .i64 ii, .slice au lu capu] 37)).cell? ⟨B, 0, none⟩ = some (.pointer (some ⟨q, 0, none⟩)) := (cell_of_row _ _ _ _ _ _ HM.out.var).trans rfl
  have e0 : (kd == 0) = false := by simpa using h0
  have e1 : (kd == 1) = false := by simpa using h1
  have e2 : (kd == 2) = false := by simpa using h2
  have e3 : (kd == 3) = false := by simpa using h3
  clear h hm hp h0 h1 h2 h3
  go_enter Tryz.func8, Tryz.ntmps8
  go_wp2_with fail
  refine (open_t HM.out.side HM.out.lt (by omega) HP.out.odead).mono ?_
  rintro e w1 ⟨q', rfl, h1, k1⟩
  have HM1 := Lib.hid (open_turn HM.out k1 h1)
  have HP1 := Lib.hid (HP.out.opened h1.lg.dok)
  have b1 : w1.cell? ⟨B, 0, none⟩ = some (.pointer (some ⟨q, 0, none⟩)) := (cell_of_row _ _ _ _ _ _ ((k1.block B (lt_of_block HM.out.var) (fun hn => hn (.inr (.inr rfl)))).trans HM.out.var)).trans rfl
  have bf : w1.frozen? ⟨B, 0, none⟩ = false := frozen_of_row _ _ _ _ _ ((k1.block B (lt_of_block HM.out.var) (fun hn => hn (.inr (.inr rfl)))).trans HM.out.var)
  have hrh := (k1.block r (lt_of_block HM.out.ref.head) (fun hn => hn (.inr (.inl rfl)))).trans HM.out.ref.head
  have r1 : w1.cell? ⟨r, 1, none⟩ = some vw := (cell_of_row _ _ _ _ _ _ hrh).trans rfl
  have r2 : w1.cell? ⟨r, 2, none⟩ = some vs := (cell_of_row _ _ _ _ _ _ hrh).trans rfl
  have rf1 : w1.frozen? ⟨r, 1, none⟩ = false := frozen_of_row _ _ _ _ _ hrh
  have rf2 : w1.frozen? ⟨r, 2, none⟩ = false := frozen_of_row _ _ _ _ _ hrh
  have hbr : ¬ B = r := HM.out.bnew.2.1
  have hrb : ¬ r = B := fun e => HM.out.bnew.2.1 e.symm
  have HE := Lib.hid (none_turn HM1.out)
  clear h1 k1 hrh
  go_wp2
  go_ret
  exact ⟨rfl, ⟨_, _, _, _, _, _, _, _, _, _, _, _, _, _, HE.out.later (by omega), HP1.out⟩⟩

theorem writes_two {N : Nat → Prop} {w0 wr : World} {p q : Nat} {S : LogS} {n : Nat} (h : Two N w0 wr p q S n) : 0 ≤ S.D.writes ∧ S.D.writes ≤ n := by
  obtain ⟨F, a, b, c, h1, h2⟩ := h.ex
  exact ⟨h1.disk.mild.w0, h1.disk.mild.w1⟩

theorem waitNone (M : Nat → Prop) (wx : World) : WaitAt M wx (.slice none 0 0) [] [] := ⟨Row.nil _ _ _, fun b hb => by simp [Value.ownBlock] at hb, rfl, fun k hk => by simp at hk⟩

set_option maxHeartbeats 4000000 in
theorem one_sync {w wr : World} {p r B i : Nat} (h : ARel w p r B i wr) (hi : i < 30) (ii : Int) (au : Option Addr) (lu capu : Nat) :
    Calls Tryz.prog 8 #[.pointer (some ⟨p, 0, none⟩), .pointer (some ⟨B, 0, none⟩), .pointer (some ⟨r, 0, none⟩), .agg #[.int .i64 1, .int .i64 ii, .slice au lu capu]] wr fun e w' => e = .returned (.bool true) ∧ ARel w p r B (i + 1) w' := by
  obtain ⟨q, N, vh, vw, vs, us, ks, ks2, H, W, W2, g, m, D, hm, hp⟩ := h.ex
  have HM := Lib.hid (hm.go (side_two w p q _ _) ((Keep.refl (fun _ => False) wr).alloc (.cells #[.int .i64 1, .int .i64 ii, .slice au lu capu] 37))); have HP := Lib.hid hp
  have b0 : (wr.alloc (.cells #[.int .i64 1, .int .i64 ii, .slice au lu capu] 37)).cell? ⟨B, 0, none⟩ = some (.pointer (some ⟨q, 0, none⟩)) := (cell_of_row _ _ _ _ _ _ HM.out.var).trans rfl
  obtain ⟨aw, capw, evw, hcw, hcw2⟩ := hm.ref.wait.row.slice
  subst evw
  unfold maxLen at hcw2
  have c1 := HM.out.ref.cell 1
  simp only [List.getElem?_toArray, List.getElem?_cons_zero, List.getElem?_cons_succ] at c1
  clear h hm hp
  go_enter Tryz.func8, Tryz.ntmps8
  go_wp2_with fail
  clear b0
  generalize (wr.alloc (.cells #[.int .i64 1, .int .i64 ii, .slice au lu capu] 37)) = wA at *
  have HWR : Hid (∀ nn, Calls Tryz.prog 26 #[.pointer (some ⟨p, 0, none⟩)] (wA.drewN nn) fun e w' => e = .returned (.int .i64 D.writes) ∧ w' = wA.drewN nn) := Lib.hid (fun nn => (writes_t (HM.out.go (side_two w p q _ _) (kdrewN _ nn)).side).mono (fun _ _ h => ⟨h.1, h.2.symm⟩))
  go_quiet (first | (go_at_call 26; refine Calls.quiet_of_same (HWR.out _)))
  have HM2 := Lib.hid (HM.out.go (side_two w p q _ _) (kdrewN wA nq))
  clear HM HWR c1
  generalize wA.drewN nq = wB at *
  go_wp2_with fail
  have hlv : deadB (syncD D g) = false := live (by rw [sync_lim]; exact HP.out.lim)
  refine (sync_t HM2.out.side HM2.out.lt (by omega) hlv).mono ?_
  rintro e w1 ⟨rfl, h1, k1⟩
  have HM3 := Lib.hid (HM2.out.log (T' := fun M wr => Two M w wr p q ⟨syncD D g, [], [], []⟩ (50 + 100 * i + 100)) k1 h1)
  have HG := Lib.hid HM2.out.side.lg.gok
  have HP3 := Lib.hid (HP.out.sync HG.out (by omega) h1.lg.dok)
  have hw0 := writes_two HM2.out.side
  have hw1 := writes_two h1
  have hws : (syncD D g).writes ≤ D.writes + 2 * (W.length : Int) + 2 := by rw [HP.out.refis.len]; exact sync_writes D g
  have hwl := HP.out.wlen
  have HWR : Hid (Calls Tryz.prog 26 #[.pointer (some ⟨p, 0, none⟩)] w1 fun e w' => e = .returned (.int .i64 (syncD D g).writes) ∧ w1 = w') := Lib.hid (writes_t HM3.out.side)
  generalize (syncD D g).writes = x at *
  generalize D.writes = y at *
  obtain ⟨n, hn⟩ : ∃ n, n = W.length := ⟨_, rfl⟩
  have HNW := Lib.hid hn
  rw [← hn] at hws hwl hcw ⊢
  clear h1 k1 hlv hn
  have t1 : decide (2 * (n : Int) + 8 < x - y) = false := by rw [decide_eq_false_iff_not]; omega
  go_wp2_with (go_at_call 26; refine HWR.out.mono ?_; rintro e w' ⟨rfl, rfl⟩)
  refine (refsync_any HM3.out.ref (fun x hx => by rw [HP.out.hlen]; exact (HP.out.win x hx).2) (by have := HP.out.wlen; omega) HP.out.hlen).mono ?_
  rintro e w2 ⟨rfl, vh', us2, hr, k2⟩
  have HM4 := Lib.hid (HM3.out.turn (side_two w p q _ _) hr (waitNone _ _) k2)
  clear hr k2
  go_wp2
  go_ret
  exact ⟨rfl, ⟨_, _, _, _, _, _, _, [], _, _, _, _, _, _, HM4.out.later (by omega), HP3.out⟩⟩

end Go.Proofs.YtibmillfankjfaaGreatDoor
