/- A log that the law itself has made: all that its calls do, in one word. -/
import Derived.Test.YtibmillfankjfaaGreatDoorPureB
namespace Go.Proofs.YtibmillfankjfaaGreatDoor
open Go.RowKit
set_option maxRecDepth 100000

/-! ### a disk that lives -/
theorem live {D : Dk} (h : D.lim = false) : deadB D = false := by simp [deadB, h]
theorem dw_lim (D : Dk) (i : Nat) (s : ByteArray) : (D.dw i s).lim = D.lim := by unfold Dk.dw; split <;> rfl
theorem df_lim (D : Dk) : D.df.lim = D.lim := by unfold Dk.df; split <;> rfl
theorem wrs_lim (D : Dk) (f : Nat → Nat × ByteArray) : ∀ k, (wrs D f k).lim = D.lim
  | 0 => rfl
  | k + 1 => by rw [wrs, dw_lim, wrs_lim D f k]
theorem settle_lim (D : Dk) (g : Grp) : (settleD D g).lim = D.lim := by rw [settleD, df_lim, dw_lim, df_lim, sd_wrs, wrs_lim]
theorem keep_lim (D : Dk) (g : Grp) : (keepD D g).lim = D.lim := by rw [keepD, df_lim, dw_lim, df_lim, kd_wrs, wrs_lim]
theorem sync_lim (D : Dk) (g : Grp) : (syncD D g).lim = D.lim := by
  unfold syncD; split
  · rfl
  · rw [settle_lim, keep_lim]
theorem open_lim (D : Dk) : (openD D).lim = D.lim := by
  unfold openD; split
  · exact df_lim D
  · rw [settle_lim, df_lim]

/-- A disk among the blocks made since w0. -/
def Dg (w0 wr : World) (p : Nat) (D : Dk) (n : Nat) : Prop := ∃ F, DiskAt wr F p D n ∧ (∀ x, F x → w0.heap.size ≤ x) ∧ Keep (fun _ => False) w0 wr ∧ Tab w0

/-- A log among the blocks made since w0. -/
def Lg (w0 wr : World) (p q : Nat) (S : LogS) (n : Nat) : Prop := ∃ F a b c, IsLog wr F p q a b c S n ∧ (∀ x, logOf F q a b c x → w0.heap.size ≤ x) ∧ Keep (fun _ => False) w0 wr ∧ Tab w0

theorem Dg.go {w0 wr w' : World} {p : Nat} {D : Dk} {n : Nat} (h : Dg w0 wr p D n) (k : Keep (fun _ => False) wr w') : Dg w0 w' p D n := by
  obtain ⟨F, h1, h2, h3, h4⟩ := h
  exact ⟨F, h1.keep0 k, h2, h3.trans k (fun _ h => h.elim), h4⟩

theorem Lg.go {w0 wr w' : World} {p q : Nat} {S : LogS} {n : Nat} (h : Lg w0 wr p q S n) (k : Keep (fun _ => False) wr w') : Lg w0 w' p q S n := by
  obtain ⟨F, a, b, c, h1, h2, h3, h4⟩ := h
  exact ⟨F, a, b, c, h1.keep0 k, h2, h3.trans k (fun _ h => h.elim), h4⟩

theorem Lg.keep {w0 wr : World} {p q : Nat} {S : LogS} {n : Nat} (h : Lg w0 wr p q S n) : Keep (fun _ => False) w0 wr := by
  obtain ⟨F, a, b, c, h1, h2, h3, h4⟩ := h
  exact h3

theorem Lg.ok {w0 wr : World} {p q : Nat} {S : LogS} {n : Nat} (h : Lg w0 wr p q S n) : S.Ok n := by
  obtain ⟨F, a, b, c, h1, h2, h3, h4⟩ := h
  exact h1.ok

theorem Lg.dok {w0 wr : World} {p q : Nat} {S : LogS} {n : Nat} (h : Lg w0 wr p q S n) : S.D.Ok := by
  obtain ⟨F, a, b, c, h1, h2, h3, h4⟩ := h
  exact h1.disk.ok

theorem Lg.gok {w0 wr : World} {p q : Nat} {S : LogS} {n : Nat} (h : Lg w0 wr p q S n) : GOk S.wait := by
  obtain ⟨F, a, b, c, h1, h2, h3, h4⟩ := h
  exact h1.wait.ok

theorem Lg.mono {w0 wr : World} {p q : Nat} {S : LogS} {n m : Nat} (h : Lg w0 wr p q S n) (hm : n ≤ m) : Lg w0 wr p q S m := by
  obtain ⟨F, a, b, c, h1, h2, h3, h4⟩ := h
  exact ⟨F, a, b, c, ⟨h1.head, h1.disk.mono hm, h1.wait, h1.mark, h1.lost, h1.ab, h1.ac, h1.bc, h1.fq, h1.fa, h1.fb, h1.fc, ⟨h1.ok.len, h1.ok.len2, h1.ok.wait, h1.ok.mark, h1.ok.wlen, h1.ok.mlen, Nat.le_trans h1.ok.llen hm⟩⟩, h2, h3, h4⟩

theorem new_g {w0 w : World} (hk : Keep (fun _ => False) w0 w) (hT : Tab w0) (n : Nat) (h1 : 1 ≤ n) (h2 : n ≤ 4096) :
    Calls Tryz.prog 5 #[.int .i64 (n : Int)] w fun e w' => ∃ p, e = .returned (.pointer (some ⟨p, 0, none⟩)) ∧ Dg w0 w' p (Dk.fresh (List.replicate n zeroSec)) 0 := by
  refine (new_any n h1 h2).mono ?_
  rintro e w' ⟨p, vl, vn, rfl, hd, hk', ho⟩
  exact ⟨p, rfl, diskOf p vl vn (.slice none 0 0), ⟨⟨vl, vn, _, hd, fun _ h => h⟩, fun b hb => (ho b hb).2, Dk.Mild.fresh _⟩, fun b hb => Nat.le_trans hk.size (ho b hb).1, hk.trans hk' (fun _ h => h.elim), hT⟩

theorem tab_at {w0 wr : World} (hk : Keep (fun _ => False) w0 wr) (hT : Tab w0) : Tab wr := hT.keep hk (fun h => h)

theorem open_g {w0 wr : World} {p : Nat} {D : Dk} {n : Nat} (h : Dg w0 wr p D n) (hn : n < 400000000000) (hlen : 128 ≤ D.las.length) (hlen2 : D.las.length ≤ 4096) (hdead : deadB (openD D) = false) :
    Calls Tryz.prog 6 #[.pointer (some ⟨p, 0, none⟩)] wr fun e w' => ∃ q, e = .returned (.tuple #[.pointer (some ⟨q, 0, none⟩), .nilIface]) ∧ Lg w0 w' p q ⟨openD D, [], [], []⟩ (n + 50) := by
  obtain ⟨F, h1, h2, h3, h4⟩ := h
  have hlt := h4.lt
  refine (open_any (tab_at h3 h4) (fun hf => by have := h2 _ hf; omega) h1 hn hlen hlen2).mono ?_
  rintro e w' (⟨hd, _⟩ | ⟨_, G, q, a, b, c, rfl, hl, hk, ho, _⟩)
  · rw [hdead] at hd; cases hd
  · have hs := h3.size
    refine ⟨q, rfl, G, a, b, c, hl, fun x hx => ?_, h3.trans hk (fun x hx => .inr (h2 x hx)), h4⟩
    rcases ho x hx with h | h
    · exact h2 x h
    · omega

theorem open_dead_g {w0 wr : World} {p : Nat} {D : Dk} {n : Nat} (h : Dg w0 wr p D n) (hn : n < 400000000000) (hlen : 128 ≤ D.las.length) (hlen2 : D.las.length ≤ 4096) (hdead : deadB (openD D) = true) :
    Calls Tryz.prog 6 #[.pointer (some ⟨p, 0, none⟩)] wr fun e w' => e = .returned (.tuple #[.pointer none, apiErr 3]) ∧ Dg w0 w' p (openD D) (n + 50) := by
  obtain ⟨F, h1, h2, h3, h4⟩ := h
  have hlt := h4.lt
  refine (open_any (tab_at h3 h4) (fun hf => by have := h2 _ hf; omega) h1 hn hlen hlen2).mono ?_
  rintro e w' (⟨_, rfl, hd, hk⟩ | ⟨hd, _⟩)
  · have hs := h3.size
    refine ⟨rfl, _, hd, fun x hx => ?_, h3.trans hk (fun x hx => .inr (h2 x hx)), h4⟩
    rcases hx with h | h
    · exact h2 x h
    · omega
  · rw [hdead] at hd; cases hd

theorem put_g {w0 wr : World} {p q : Nat} {S : LogS} {n : Nat} (h : Lg w0 wr p q S n) (i : Nat) (z : Int) (hz : z = (i : Int)) (hi : homeB S.D.las.length (i : Int) = true) (g off cap : Nat) (s : ByteArray) (hs : s.size = 512) (hb : BytesAt wr g off s.data.toList) (hfit : (glook S.wait i).isSome = true ∨ S.wait.length < 40) :
    Calls Tryz.prog 10 #[.pointer (some ⟨q, 0, none⟩), .int .i64 z, .slice (some ⟨g, off, none⟩) 512 cap] wr fun e w' => e = .returned .nilIface ∧ Lg w0 w' p q { S with wait := gput S.wait i s } n := by
  subst hz
  obtain ⟨F, a, b, c, h1, h2, h3, h4⟩ := h
  refine (lput_any h1 i hi g off cap s hs hb hfit).mono ?_
  rintro e w' ⟨rfl, hl, hk⟩
  exact ⟨rfl, F, a, b, c, hl, h2, h3.behind hk (h2 a (.inr (.inr (.inl rfl)))), h4⟩

theorem putfull_g {w0 wr : World} {p q : Nat} {S : LogS} {n : Nat} (h : Lg w0 wr p q S n) (i : Nat) (z : Int) (hz : z = (i : Int)) (hi : homeB S.D.las.length (i : Int) = true) (v : Option Addr) (cap : Nat) (h1 : (glook S.wait i).isSome = false) (h2 : S.wait.length = 40) :
    Calls Tryz.prog 10 #[.pointer (some ⟨q, 0, none⟩), .int .i64 z, .slice v 512 cap] wr fun e w' => ∃ r, e = .returned (.iface 66 (.pointer (some ⟨r, 0, none⟩))) ∧ w'.heap[r]? = some (.cells #[.int .i64 40, apiErr 2] 70 (0, 0)) ∧ Lg w0 w' p q S n ∧ wr.heap.size ≤ r ∧ Keep (fun _ => False) wr w' := by
  subst hz
  obtain ⟨F, a, b, c, k1, k2, k3, k4⟩ := h
  refine (lput_full k1 i hi v cap h1 h2).mono ?_
  rintro e w' ⟨r, rfl, hr, hk, hw⟩
  exact ⟨r, rfl, hr, ⟨F, a, b, c, k1.keep0 hk, k2, k3.trans hk (fun _ h => h.elim), k4⟩, hw, hk⟩

theorem putout_g {w0 wr : World} {p q : Nat} {S : LogS} {n : Nat} (h : Lg w0 wr p q S n) (i : Int) (hi : homeB S.D.las.length i = false) (v : Value) :
    Calls Tryz.prog 10 #[.pointer (some ⟨q, 0, none⟩), .int .i64 i, v] wr fun e w' => e = .returned (apiErr 1) ∧ wr = w' := by
  obtain ⟨F, a, b, c, h1, h2, h3, h4⟩ := h
  exact lput_out h1 i hi v

theorem read_g {w0 wr : World} {p q : Nat} {S : LogS} {n : Nat} (h : Lg w0 wr p q S n) (i : Nat) (z : Int) (hz : z = (i : Int)) (hi : homeB S.D.las.length (i : Int) = true) :
    Calls Tryz.prog 14 #[.pointer (some ⟨q, 0, none⟩), .int .i64 z] wr fun e w' => ∃ v, e = .returned (.tuple #[v, .nilIface]) ∧ NewSec wr w' v (S.read i) ∧ Lg w0 w' p q S n := by
  subst hz
  obtain ⟨F, a, b, c, h1, h2, h3, h4⟩ := h
  refine (lread_any h1 i hi).mono ?_
  rintro e w' ⟨v, rfl, hn⟩
  exact ⟨v, rfl, hn, F, a, b, c, h1.keep0 hn.keep, h2, h3.trans hn.keep (fun _ h => h.elim), h4⟩

theorem wait_g {w0 wr : World} {p q : Nat} {S : LogS} {n : Nat} (h : Lg w0 wr p q S n) :
    Calls Tryz.prog 30 #[.pointer (some ⟨q, 0, none⟩)] wr fun e w' => e = .returned (.int .i64 (S.wait.length : Int)) ∧ wr = w' := by
  obtain ⟨F, a, b, c, h1, h2, h3, h4⟩ := h
  exact lwait_any h1

theorem sync_g {w0 wr : World} {p q : Nat} {S : LogS} {n : Nat} (h : Lg w0 wr p q S n) (hn : n < 400000000000) (hdead : deadB (syncD S.D S.wait) = false) :
    Calls Tryz.prog 12 #[.pointer (some ⟨q, 0, none⟩)] wr fun e w' => e = .returned .nilIface ∧ Lg w0 w' p q ⟨syncD S.D S.wait, [], [], S.lost⟩ (n + 100) := by
  obtain ⟨F, a, b, c, h1, h2, h3, h4⟩ := h
  have hlt := h4.lt
  have hs := h3.size
  refine (lsync_any (tab_at h3 h4) ⟨fun hf => by have := h2 _ (.inl hf); omega, fun e => by have := h2 q (.inr (.inl rfl)); omega⟩ h1 hn hdead).mono ?_
  rintro e w' ⟨rfl, G, a', b', hl, hk, ho⟩
  refine ⟨rfl, G, a', b', c, hl, fun x hx => ?_, h3.trans hk (fun x hx => .inr ?_), h4⟩
  · rcases ho x hx with h | h
    · exact h2 x h
    · omega
  · rcases hx with hx | rfl
    · exact h2 x (.inl hx)
    · exact h2 x (.inr (.inl rfl))

theorem crash_g {w0 wr : World} {p q : Nat} {S : LogS} {n : Nat} (h : Lg w0 wr p q S n) {vp : Value} {bs : List Bool} (hp : Seen wr 1 vp bs.length (bools bs)) (hpn : ∀ b, vp.ownBlock = some b → 0 < bs.length → b < wr.heap.size) :
    Calls Tryz.prog 13 #[.pointer (some ⟨p, 0, none⟩), vp] wr fun e w' => ∃ p2, e = .returned (.pointer (some ⟨p2, 0, none⟩)) ∧ Dg w0 w' p2 (S.D.crash bs) 0 ∧ Keep (fun _ => False) wr w' := by
  obtain ⟨F, a, b, c, h1, h2, h3, h4⟩ := h
  obtain ⟨⟨vl, vn, vc, hd, _⟩, _, _⟩ := h1.disk
  refine (crash_any hd (by have := h1.ok.len2; omega) hp hpn).mono ?_
  rintro e w' ⟨p2, ul, un, rfl, hd2, hk, ho⟩
  exact ⟨p2, rfl, ⟨diskOf p2 ul un (.slice none 0 0), ⟨⟨ul, un, _, hd2, fun _ h => h⟩, fun b hb => (ho b hb).2, Dk.Mild.fresh _⟩, fun b hb => Nat.le_trans h3.size (ho b hb).1, h3.trans hk (fun _ h => h.elim), h4⟩, hk⟩

theorem crash_fresh (D : Dk) (bs : List Bool) : D.crash bs = Dk.fresh (putAll D.las (pick D.cache bs)) := rfl

theorem fresh_ok {L : List ByteArray} (h0 : 0 < L.length) (h : ∀ s ∈ L, s.size = 512) : (Dk.fresh L).Ok := ⟨rfl, h0, by simp [Dk.fresh], h, h⟩

/-- A log that reads what lasts. -/
theorem read_las {S : LogS} (hw : S.wait = []) (hl : S.lost = []) (hc : S.D.new = S.D.las) (i : Nat) : S.read i = S.D.las.getD i default := by
  unfold LogS.read
  rw [hw, hl, hc]
  rfl

end Go.Proofs.YtibmillfankjfaaGreatDoor
