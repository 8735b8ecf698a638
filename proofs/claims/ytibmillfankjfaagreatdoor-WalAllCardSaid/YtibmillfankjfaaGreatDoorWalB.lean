/- A disk with its blocks and what it has had; a sector written, the cache flushed, whether the power is on or off. -/
import Derived.Test.YtibmillfankjfaaGreatDoorWalA
namespace Go.Proofs.YtibmillfankjfaaGreatDoor
open Go.RowKit
set_option maxRecDepth 100000

def Dk.dw (D : Dk) (i : Nat) (s : ByteArray) : Dk := if deadB D then D else D.write i s
def Dk.df (D : Dk) : Dk := if deadB D then D else D.flush

/-- Numbers that are not too great. -/
structure Dk.Mild (D : Dk) (n : Nat) : Prop where
  w0 : 0 ≤ D.writes
  w1 : D.writes ≤ n
  cache : D.cache.length ≤ n
  l0 : 0 ≤ D.left
  l1 : D.left ≤ 1099511627776

theorem Dk.Mild.mono {D : Dk} {n m : Nat} (h : D.Mild n) (hm : n ≤ m) : D.Mild m :=
  ⟨h.w0, by have := h.w1; omega, by have := h.cache; omega, h.l0, h.l1⟩

theorem Dk.dw_las (D : Dk) (i : Nat) (s : ByteArray) : (D.dw i s).las = D.las := by unfold Dk.dw; split <;> rfl

theorem putAll_len (l : List ByteArray) (c : List (Nat × ByteArray)) : (putAll l c).length = l.length := putAll_length c l

theorem Dk.df_len (D : Dk) : D.df.las.length = D.las.length := by
  unfold Dk.df; split
  · rfl
  · exact putAll_len _ _

theorem Dk.Mild.dw {D : Dk} {n : Nat} (h : D.Mild n) (i : Nat) (s : ByteArray) : (D.dw i s).Mild (n + 1) := by
  unfold Dk.dw
  split
  · exact h.mono (Nat.le_succ _)
  · rename_i hd
    obtain ⟨a, b, c, d, e⟩ := h
    refine ⟨by simp only [Dk.write]; omega, by simp only [Dk.write]; omega, by simp [Dk.write]; omega, ?_, ?_⟩
    · simp only [Dk.write]
      split
      · rename_i hl
        have : ¬ D.left = 0 := by intro e; exact hd (by simp [deadB, hl, e])
        omega
      · exact d
    · simp only [Dk.write]
      split
      · omega
      · exact e

theorem Dk.Mild.df {D : Dk} {n : Nat} (h : D.Mild n) : D.df.Mild n := by
  unfold Dk.df
  split
  · exact h
  · exact ⟨h.w0, h.w1, by simp [Dk.flush], h.l0, h.l1⟩

theorem Dk.Mild.limit {D : Dk} {n : Nat} (h : D.Mild n) (k : Int) (hk : k ≤ 1099511627776) : (D.limit k).Mild n :=
  ⟨h.w0, h.w1, h.cache, by simp only [Dk.limit]; omega, by simp only [Dk.limit]; omega⟩

theorem Dk.Mild.fresh (l : List ByteArray) : (Dk.fresh l).Mild 0 := ⟨by simp [Dk.fresh], by simp [Dk.fresh], by simp [Dk.fresh], by simp [Dk.fresh], by simp [Dk.fresh]⟩

theorem Dk.Ok.dw {D : Dk} (h : D.Ok) {i : Nat} {s : ByteArray} (hi : i < D.las.length) (hs : s.size = 512) : (D.dw i s).Ok := by
  unfold Dk.dw; split
  · exact h
  · exact h.write hi hs

/-- A disk in memory: its blocks lie among F, which lie in the world. -/
structure DiskAt (w : World) (F : Nat → Prop) (p : Nat) (D : Dk) (n : Nat) : Prop where
  disk : Disk w F p D
  lt : ∀ b, F b → b < w.heap.size
  mild : D.Mild n

theorem DiskAt.ok {w : World} {F : Nat → Prop} {p : Nat} {D : Dk} {n : Nat} (h : DiskAt w F p D n) : D.Ok := by
  obtain ⟨_, _, _, hd, _⟩ := h.disk
  exact hd.ok

theorem DiskAt.keep {w w' : World} {F G : Nat → Prop} {p : Nat} {D : Dk} {n : Nat} (h : DiskAt w F p D n) (k : Keep G w w') (hG : ∀ b, F b → ¬ G b) : DiskAt w' F p D n :=
  ⟨h.disk.keep k hG, fun b hb => Nat.lt_of_lt_of_le (h.lt b hb) k.size, h.mild⟩

theorem DiskAt.keep0 {w w' : World} {F : Nat → Prop} {p : Nat} {D : Dk} {n : Nat} (h : DiskAt w F p D n) (k : Keep (fun _ => False) w w') : DiskAt w' F p D n := h.keep k (fun _ _ h => h)

theorem DiskAt.mono {w : World} {F : Nat → Prop} {p : Nat} {D : Dk} {n m : Nat} (h : DiskAt w F p D n) (hm : n ≤ m) : DiskAt w F p D m := ⟨h.disk, h.lt, h.mild.mono hm⟩

theorem DiskAt.grown {w w' : World} {F G : Nat → Prop} {p : Nat} {D : Dk} {n : Nat} (h : Disk w' G p D) (hG : ∀ b, G b → grow F w w' b) (hF : ∀ b, F b → b < w.heap.size) (hs : w.heap.size ≤ w'.heap.size) (hm : D.Mild n) : DiskAt w' (grow F w w') p D n :=
  ⟨h.mono hG, fun b hb => by rcases hb with hb | hb; exact Nat.lt_of_lt_of_le (hF b hb) hs; exact hb.2, hm⟩

theorem grow_grow {F : Nat → Prop} {a b c : World} (h1 : a.heap.size ≤ b.heap.size) (h2 : b.heap.size ≤ c.heap.size) : grow (grow F a b) b c = grow F a c := by
  funext x
  simp only [grow, eq_iff_iff]
  constructor
  · rintro ((h | h) | h)
    · exact .inl h
    · exact .inr (by omega)
    · exact .inr (by omega)
  · rintro (h | h)
    · exact .inl (.inl h)
    · by_cases hx : x < b.heap.size
      · exact .inl (.inr (by omega))
      · exact .inr (by omega)

theorem Keep.grown2 {F : Nat → Prop} {a b c : World} (h : Keep F a b) (k : Keep (grow F a b) b c) : Keep F a c :=
  h.trans k (fun x hx => by
    rcases hx with hx | hx
    · exact .inl hx
    · exact .inr hx.1)

set_option maxHeartbeats 1000000 in
/-- A sector written. -/
theorem wr_any {w : World} {F : Nat → Prop} {p : Nat} {D : Dk} {n : Nat} (h : DiskAt w F p D n) (hn : n < 549755813888) (i : Nat) (hi : i < D.las.length) (s : ByteArray) (hs : s.size = 512) :
    Calls Tryz.prog 40 #[.pointer (some ⟨p, 0, none⟩), .int .i64 (i : Int), secV s] w fun e w' => e = .returned (.tuple #[]) ∧ DiskAt w' (grow F w w') p (D.dw i s) (n + 1) ∧ Keep F w w' := by
  have S0 := Lib.hid (SecAt.new w s hs)
  have K0 := Lib.hid ((Keep.refl F w).alloc (.cells (secC s) 53))
  obtain ⟨⟨vl, vn, vc, hd, hF⟩, hlt, hm⟩ := h
  have HD := Lib.hid (hd.keep ((Keep.refl (fun _ => False) w).alloc (.cells (secC s) 53)) (fun _ _ h => h))
  have HF := Lib.hid hF; have HLT := Lib.hid hlt; have HM := Lib.hid hm
  clear hd hF hlt hm
  cases hdd : deadB D
  · have HE : Hid (D.dw i s = D.write i s) := Lib.hid (by unfold Dk.dw; rw [hdd]; rfl)
    have HDD := Lib.hid hdd
    clear hdd
    go_enter Tryz.func40, Tryz.ntmps40
    go_wp2_with (first | (refine wpList_box_sec rfl _ rfl s rfl ?_) | (refine wpList_slice_sec rfl _ _ rfl _ 0 (by omega) rfl (.inl ⟨rfl, rfl⟩) ?_) | (go_at_call 56; refine (write_alive HD.out i hi w.heap.size 0 512 s.data.toList (by rw [Array.length_toList]; exact hs) S0.out.bytes HDD.out ⟨HM.out.w0, by have := HM.out.w1; omega⟩ ⟨by have := HM.out.l0; omega, by have := HM.out.l1; omega⟩ (by have := HM.out.cache; omega)).mono ?_; rintro e w1 ⟨rfl, h1, h2⟩; have H1 := Lib.hid h1; have H2 := Lib.hid h2; clear h1 h2))
    go_end0
    have hk := K0.out.trans H2.out (fun b hb => .inl (HF.out b hb))
    rw [HE.out]
    have hsz := H2.out.size
    simp only [World.size_alloc] at hsz
    refine ⟨rfl, DiskAt.grown H1.out (fun b hb => ?_) HLT.out hk.size (by rw [← HE.out]; exact HM.out.dw i s), hk⟩
    rcases hb with hb | hb
    · exact .inl (HF.out b hb)
    · simp only [World.size_alloc] at hb
      exact .inr (by omega)
  · have HE : Hid (D.dw i s = D) := Lib.hid (by unfold Dk.dw; rw [hdd]; rfl)
    have HDD := Lib.hid hdd
    have HI : Hid (hasB D.las.length (i : Int) = true) := Lib.hid (by simp only [hasB, decide_eq_true_eq]; omega)
    clear hdd
    go_enter Tryz.func40, Tryz.ntmps40
    go_wp2_with (first | (refine wpList_box_sec rfl _ rfl s rfl ?_) | (refine wpList_slice_sec rfl _ _ rfl _ 0 (by omega) rfl (.inl ⟨rfl, rfl⟩) ?_) | (go_at_call 56; refine (write_dead HD.out i HI.out _ _ HDD.out).mono ?_; rintro e w1 ⟨rfl, rfl⟩))
    go_end0
    rw [HE.out]
    refine ⟨rfl, DiskAt.grown (F := F) ⟨vl, vn, vc, HD.out, HF.out⟩ (fun b hb => .inl hb) HLT.out (by simp) (HM.out.mono (Nat.le_succ _)), K0.out⟩

/-- The cache flushed. -/
theorem fl_any {w : World} {F : Nat → Prop} {p : Nat} {D : Dk} {n : Nat} (h : DiskAt w F p D n) :
    Calls Tryz.prog 19 #[.pointer (some ⟨p, 0, none⟩)] w fun e w' => e = .returned (.tuple #[]) ∧ DiskAt w' (grow F w w') p D.df n ∧ Keep F w w' := by
  obtain ⟨⟨vl, vn, vc, hd, hF⟩, hlt, hm⟩ := h
  cases hdd : deadB D
  · refine (flush_any hd hdd).mono ?_
    rintro e w' ⟨he, h1, h2⟩
    have hk : Keep F w w' := h2.mono (fun b _ hb => hF b hb)
    have e1 : D.df = D.flush := by unfold Dk.df; rw [hdd]; rfl
    rw [e1]
    refine ⟨he, DiskAt.grown ⟨vl, vn, _, h1, fun b hb => ?_⟩ (fun b hb => .inl hb) hlt hk.size (by rw [← e1]; exact hm.df), hk⟩
    rcases hb with hb | hb | hb | hb
    · exact hF b (.inl hb)
    · exact hF b (.inr (.inl hb))
    · exact hF b (.inr (.inr (.inl hb)))
    · simp [Value.ownBlock] at hb
  · have e1 : D.df = D := by unfold Dk.df; rw [hdd]; rfl
    rw [e1]
    refine (flush_dead hd hdd).mono ?_
    rintro e w' ⟨he, rfl⟩
    exact ⟨he, DiskAt.grown ⟨vl, vn, vc, hd, hF⟩ (fun b hb => .inl hb) hlt (Nat.le_refl _) hm, Keep.refl _ _⟩

theorem isHome_at {w : World} {F : Nat → Prop} {p : Nat} {D : Dk} {n : Nat} (h : DiskAt w F p D n) (i : Int) :
    Calls Tryz.prog 42 #[.pointer (some ⟨p, 0, none⟩), .int .i64 i] w fun e w' => e = .returned (.bool (homeB D.las.length i)) ∧ w = w' := by
  obtain ⟨vl, vn, vc, hd, _⟩ := h.disk
  exact isHome_any hd i

theorem rd_at {w : World} {F : Nat → Prop} {p : Nat} {D : Dk} {n : Nat} (h : DiskAt w F p D n) (i : Nat) (hi : i < D.las.length) :
    Calls Tryz.prog 20 #[.pointer (some ⟨p, 0, none⟩), .int .i64 (i : Int)] w fun e w' => e = .returned (secV (D.new.getD i default)) ∧ Keep (fun _ => False) w w' := by
  obtain ⟨vl, vn, vc, hd, _⟩ := h.disk
  exact rd_any hd i hi _ rfl

theorem rd_is {w : World} {F : Nat → Prop} {p : Nat} {D : Dk} {n : Nat} (h : DiskAt w F p D n) (i : Nat) (hi : i < D.las.length) (s : ByteArray) (hs : D.new.getD i default = s) (z : Int) (hz : z = (i : Int)) :
    Calls Tryz.prog 20 #[.pointer (some ⟨p, 0, none⟩), .int .i64 z] w fun e w' => e = .returned (secV s) ∧ Keep (fun _ => False) w w' := by
  subst hz
  obtain ⟨vl, vn, vc, hd, _⟩ := h.disk
  exact rd_any hd i hi s hs

theorem dead_at {w : World} {F : Nat → Prop} {p : Nat} {D : Dk} {n : Nat} (h : DiskAt w F p D n) :
    Calls Tryz.prog 23 #[.pointer (some ⟨p, 0, none⟩)] w fun e w' => e = .returned (.bool (deadB D)) ∧ w = w' := by
  obtain ⟨vl, vn, vc, hd, _⟩ := h.disk
  exact dead_any hd

theorem len_at {w : World} {F : Nat → Prop} {p : Nat} {D : Dk} {n : Nat} (h : DiskAt w F p D n) :
    Calls Tryz.prog 18 #[.pointer (some ⟨p, 0, none⟩)] w fun e w' => e = .returned (.int .i64 D.las.length) ∧ w = w' := by
  obtain ⟨vl, vn, vc, hd, _⟩ := h.disk
  exact len_any hd

end Go.Proofs.YtibmillfankjfaaGreatDoor
