/- A disk that a law writes on itself: its calls by one word; what is forged is read all the same. -/
import Derived.Test.YtibmillfankjfaaGreatDoorW3
namespace Go.Proofs.YtibmillfankjfaaGreatDoor
open Go.RowKit
set_option maxRecDepth 100000

theorem Lg.dg {w0 wr : World} {p q : Nat} {S : LogS} {n : Nat} (h : Lg w0 wr p q S n) : Dg w0 wr p S.D n := by
  obtain ⟨F, a, b, c, h1, h2, h3, h4⟩ := h
  exact ⟨F, h1.disk, fun x hx => h2 x (.inl hx), h3, h4⟩

theorem Dg.keep {w0 wr : World} {p : Nat} {D : Dk} {n : Nat} (h : Dg w0 wr p D n) : Keep (fun _ => False) w0 wr := by
  obtain ⟨F, h1, h2, h3, h4⟩ := h
  exact h3

theorem Dg.mono {w0 wr : World} {p : Nat} {D : Dk} {n m : Nat} (h : Dg w0 wr p D n) (hm : n ≤ m) : Dg w0 wr p D m := by
  obtain ⟨F, h1, h2, h3, h4⟩ := h
  exact ⟨F, h1.mono hm, h2, h3, h4⟩

theorem Dg.ok {w0 wr : World} {p : Nat} {D : Dk} {n : Nat} (h : Dg w0 wr p D n) : D.Ok := by
  obtain ⟨F, h1, h2, h3, h4⟩ := h
  exact h1.ok

theorem dread_g {w0 wr : World} {p : Nat} {D : Dk} {n : Nat} (h : Dg w0 wr p D n) (i : Nat) (z : Int) (hz : z = (i : Int)) (hi : i < D.las.length) :
    Calls Tryz.prog 36 #[.pointer (some ⟨p, 0, none⟩), .int .i64 z] wr fun e w' => ∃ g cap l, List.length l = 512 ∧ e = .returned (.tuple #[.slice (some ⟨g, 0, none⟩) 512 cap, .nilIface]) ∧
      Row w' 5 1 (.slice (some ⟨g, 0, none⟩) 512 cap) 512 (bcells l) ∧ Keep (fun _ => False) wr w' ∧ wr.heap.size ≤ g := by
  subst hz
  obtain ⟨F, ⟨⟨vl, vn, vc, hd, _⟩, _, _⟩, _, _, _⟩ := h
  refine (read_sec hd i hi _ rfl).mono ?_
  rintro e w' ⟨cap, rfl, hr, hk, _⟩
  exact ⟨_, cap, (D.new.getD i default).data.toList, by rw [Array.length_toList]; exact new_size hd.ok hi rfl, rfl, hr, hk, Nat.le_refl _⟩

theorem dwrite_g {w0 wr : World} {p : Nat} {D : Dk} {n : Nat} (h : Dg w0 wr p D n) (hn : n < 400000000000) (hl : D.lim = false) (i : Nat) (z : Int) (hz : z = (i : Int)) (hi : i < D.las.length) (g off cap : Nat) (l : List UInt8) (hll : l.length = 512) (hb : BytesAt wr g off l) :
    Calls Tryz.prog 56 #[.pointer (some ⟨p, 0, none⟩), .int .i64 z, .slice (some ⟨g, off, none⟩) 512 cap] wr fun e w' => e = .returned .nilIface ∧ Dg w0 w' p (D.dw i ⟨l.toArray⟩) (n + 1) := by
  subst hz
  obtain ⟨F, ⟨⟨vl, vn, vc, hd, hF⟩, hlt, HM⟩, h2, h3, h4⟩ := h
  have hdd := live hl
  refine (write_alive hd i hi g off cap l hll hb hdd ⟨HM.w0, by have := HM.w1; omega⟩ ⟨by have := HM.l0; omega, by have := HM.l1; omega⟩ (by have := HM.cache; omega)).mono ?_
  rintro e w' ⟨rfl, k1, k2⟩
  rw [← dw_live hdd] at k1
  have hs := h3.size
  refine ⟨rfl, grow F wr w', DiskAt.grown k1 (fun b hb => ?_) hlt k2.size (HM.dw i _), fun x hx => ?_, h3.trans k2 (fun x hx => .inr (h2 x (hF x hx))), h4⟩
  · rcases hb with hb | hb
    · exact .inl (hF b hb)
    · exact .inr hb
  · rcases hx with hx | hx
    · exact h2 x hx
    · omega

theorem dflush_g {w0 wr : World} {p : Nat} {D : Dk} {n : Nat} (h : Dg w0 wr p D n) :
    Calls Tryz.prog 19 #[.pointer (some ⟨p, 0, none⟩)] wr fun e w' => e = .returned (.tuple #[]) ∧ Dg w0 w' p D.df n := by
  obtain ⟨F, h1, h2, h3, h4⟩ := h
  have hs := h3.size
  refine (fl_any h1).mono ?_
  rintro e w' ⟨rfl, k1, k2⟩
  refine ⟨rfl, grow F wr w', k1, fun x hx => ?_, h3.trans k2 (fun x hx => .inr (h2 x hx)), h4⟩
  rcases hx with hx | hx
  · exact h2 x hx
  · omega

/-- What stays of a disk, whatever is forged on it. -/
structure Forged (D : Dk) : Prop where
  lim : D.lim = false
  len : D.las.length = 128
  coh : D.Coh

theorem Forged.dw {D : Dk} (h : Forged D) (i : Nat) (s : ByteArray) : Forged (D.dw i s) := ⟨by rw [dw_lim]; exact h.lim, by rw [Dk.dw_las]; exact h.len, h.coh.dw i s⟩

theorem Forged.opened {D : Dk} (h : Forged D) (hok : D.df.Ok) : Clean (openD D.df) 128 ∧ (openD D.df).lim = false ∧ deadB (openD D.df) = false ∧ D.df.las.length = 128 := by
  have hl : (openD D.df).lim = false := by rw [open_lim, df_lim]; exact h.lim
  have hn : D.df.las.length = 128 := by rw [Dk.df_len]; exact h.len
  have := (open_clean hok h.coh.df (by rw [df_live (live h.lim)]; rfl) (by omega) (live hl)).1
  rw [hn] at this
  exact ⟨this, hl, live hl, hn⟩

/-- A sector that is synced is read behind a crash. -/
theorem home_val {D1 : Dk} (h : Clean D1 128) (hl : D1.lim = false) (i : Nat) (h48 : 48 ≤ i) (h128 : i < 128) (s : ByteArray) (hs : s.size = 512) (hok : (syncD D1 (gput [] i s)).Ok) :
    Clean (syncD D1 (gput [] i s)) 128 ∧ deadB (openD (Dk.fresh (syncD D1 (gput [] i s)).las)) = false ∧ LogS.read ⟨openD (Dk.fresh (syncD D1 (gput [] i s)).las), [], [], []⟩ i = s := by
  have h1 : deadB (syncD D1 (gput [] i s)) = false := live (by rw [sync_lim]; exact hl)
  have hg : GOk (gput [] i s) := GOk.nil.put (by omega) hs
  have hin : GIn D1 (gput [] i s) := fun x hx => by
    rcases (gput_mem _ _ _ x).1 hx with rfl | hx
    · have := h.len; exact ⟨by simp only; omega, by simp only; omega⟩
    · simp at hx
  obtain ⟨c2, v2⟩ := sync_clean h hg hin (by have := gput_le [] i s; simp at this; omega) (by omega) h1
  have hlen := c2.len
  obtain ⟨c3, v3, d3⟩ := open_fresh hok.las (by omega)
  refine ⟨c2, d3, ?_⟩
  rw [c3.read rfl rfl, v3 i (by omega) (by omega), c2.rh, v2 i (by omega) (by omega)]
  simp [over, glook_put]

end Go.Proofs.YtibmillfankjfaaGreatDoor
