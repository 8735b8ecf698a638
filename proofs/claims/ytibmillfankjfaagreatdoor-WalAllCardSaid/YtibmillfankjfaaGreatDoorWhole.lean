/- What WalWhole's calls do, and what it says of disks. -/
import Derived.Test.YtibmillfankjfaaGreatDoorSyncD
import Derived.Test.YtibmillfankjfaaGreatDoorForge
namespace Go.Proofs.YtibmillfankjfaaGreatDoor
open Go.RowKit
set_option maxRecDepth 100000

theorem sync_d {w0 wr : World} {p q : Nat} {S : LogS} {n : Nat} (h : Lg w0 wr p q S n) (hn : n < 400000000000) (hz : S.wait.length ≠ 0) :
    Calls Tryz.prog 12 #[.pointer (some ⟨q, 0, none⟩)] wr fun e w' => ∃ rv, e = .returned rv ∧ (deadB (syncD S.D S.wait) = false ∧ rv = .nilIface ∨ deadB (syncD S.D S.wait) = true ∧ rv = apiErr 4) ∧ Dg w0 w' p (syncD S.D S.wait) (n + 100) := by
  cases hd : deadB (syncD S.D S.wait)
  · refine (sync_g h hn hd).mono ?_
    rintro e w' ⟨rfl, h'⟩
    exact ⟨_, rfl, .inl ⟨rfl, rfl⟩, h'.dg⟩
  · obtain ⟨F, a, b, c, h1, h2, h3, h4⟩ := h
    have hlt := h4.lt
    have hs := h3.size
    refine (lsync_dead (tab_at h3 h4) ⟨fun hf => by have := h2 _ (.inl hf); omega, fun e => by have := h2 q (.inr (.inl rfl)); omega⟩ h1 hn hz hd).mono ?_
    rintro e w' ⟨rfl, G, hdk, hk, hG⟩
    refine ⟨_, rfl, .inr ⟨rfl, rfl⟩, G, hdk, fun x hx => ?_, h3.trans hk (fun x hx => .inr ?_), h4⟩
    · rcases hG x hx with h | h
      · exact h2 x (.inl h)
      · omega
    · rcases hx with hx | rfl | rfl
      · exact h2 x (.inl hx)
      · exact h2 _ (.inr (.inl rfl))
      · exact h2 _ (.inr (.inr (.inr (.inr rfl))))

theorem dead_g {w0 wr : World} {p : Nat} {D : Dk} {n : Nat} (h : Dg w0 wr p D n) :
    Calls Tryz.prog 23 #[.pointer (some ⟨p, 0, none⟩)] wr fun e w' => e = .returned (.bool (deadB D)) ∧ wr = w' := by
  obtain ⟨F, h1, h2, h3, h4⟩ := h
  exact dead_at h1

theorem dcrash_g {w0 wr : World} {p : Nat} {D : Dk} {n : Nat} (h : Dg w0 wr p D n) (hlen : D.las.length ≤ 4096) {vp : Value} {bs : List Bool} (hp : Seen wr 1 vp bs.length (bools bs)) (hpn : ∀ b, vp.ownBlock = some b → 0 < bs.length → b < wr.heap.size) :
    Calls Tryz.prog 13 #[.pointer (some ⟨p, 0, none⟩), vp] wr fun e w' => ∃ p2, e = .returned (.pointer (some ⟨p2, 0, none⟩)) ∧ Dg w0 w' p2 (D.crash bs) 0 ∧ Keep (fun _ => False) wr w' := by
  obtain ⟨F, h1, h2, h3, h4⟩ := h
  obtain ⟨⟨vl, vn, vc, hd, _⟩, _, _⟩ := h1
  refine (crash_any hd (by omega) hp hpn).mono ?_
  rintro e w' ⟨p2, ul, un, rfl, hd2, hk, ho⟩
  exact ⟨p2, rfl, ⟨diskOf p2 ul un (.slice none 0 0), ⟨⟨ul, un, _, hd2, fun _ h => h⟩, fun b hb => (ho b hb).2, Dk.Mild.fresh _⟩, fun b hb => Nat.le_trans h3.size (ho b hb).1, h3.trans hk (fun _ h => h.elim), h4⟩, hk⟩

/-- A value into every third sector from 48 on. -/
def wg (v : UInt8) : Nat → Grp
  | 0 => []
  | k + 1 => gput (wg v k) (48 + 3 * k) (secStr [v])

theorem wg_len (v : UInt8) : ∀ k, (wg v k).length ≤ k
  | 0 => by simp [wg]
  | k + 1 => by have := wg_len v k; have := gput_le (wg v k) (48 + 3 * k) (secStr [v]); unfold wg; omega

theorem wg_ok (v : UInt8) : ∀ k, k ≤ 40 → GOk (wg v k)
  | 0, _ => GOk.nil
  | k + 1, h => by unfold wg; exact (wg_ok v k (by omega)).put (by omega) (secStr_size _)

theorem wg_look (v : UInt8) : ∀ k j, j < k → glook (wg v k) (48 + 3 * j) = some (secStr [v])
  | 0, j, h => by omega
  | k + 1, j, h => by
    unfold wg
    rw [glook_put]
    split
    · rfl
    · exact wg_look v k j (by omega)

theorem wg_mem (v : UInt8) : ∀ k, ∀ x ∈ wg v k, 48 ≤ x.1 ∧ x.1 < 48 + 3 * k
  | 0, x, h => by simp [wg] at h
  | k + 1, x, h => by
    unfold wg at h
    rcases (gput_mem _ _ _ x).1 h with rfl | ⟨h, _⟩
    · simp only; omega
    · have := wg_mem v k x h; omega

theorem wg_ne (v : UInt8) (k : Nat) (h : 0 < k) : (wg v k).length ≠ 0 := fun e => by
  have h1 := wg_look v k 0 h
  rw [List.eq_nil_of_length_eq_zero e] at h1
  simp [glook] at h1

theorem wg_in (v : UInt8) (k : Nat) (hk : k ≤ 40) {D : Dk} (h : D.las.length = 200) : GIn D (wg v k) := fun x hx => by
  have := wg_mem v k x hx
  omega

theorem Clean.limit {D : Dk} {n : Nat} (h : Clean D n) (k : Int) : Clean (D.limit k) n := ⟨h.cache, h.head, h.coh.limit k, h.len⟩

theorem wg_over (v : UInt8) (k j : Nat) (h : j < k) (L : List ByteArray) : over (wg v k) L (48 + 3 * j) = secStr [v] := by
  simp [over, wg_look v k j h]

/-- All old or all new, and new if the disk lives. -/
theorem whole_val {D1 : Dk} (h : Clean D1 200) (hl : D1.lim = false) (n : Nat) (h1 : 0 < n) (h2 : n ≤ 40) (k : Int) (bs : List Bool) (hok : ((syncD ((syncD D1 (wg 1 n)).limit k) (wg 2 n)).crash bs).Ok) :
    deadB (openD ((syncD ((syncD D1 (wg 1 n)).limit k) (wg 2 n)).crash bs)) = false ∧ ((syncD ((syncD D1 (wg 1 n)).limit k) (wg 2 n)).crash bs).las.length = 200 ∧
    ∃ v : UInt8, (deadB (syncD ((syncD D1 (wg 1 n)).limit k) (wg 2 n)) = true ∧ v = 1 ∨ v = 2) ∧ ∀ j, j < n → LogS.read ⟨openD ((syncD ((syncD D1 (wg 1 n)).limit k) (wg 2 n)).crash bs), [], [], []⟩ (48 + 3 * j) = secStr [v] := by
  have hd1 : deadB (syncD D1 (wg 1 n)) = false := live (by rw [sync_lim]; exact hl)
  obtain ⟨c2, v2⟩ := sync_clean h (wg_ok 1 n h2) (wg_in 1 n h2 h.len) (by have := wg_len 1 n; omega) (by omega) hd1
  have c3 := c2.limit k
  have e3 : ((syncD D1 (wg 1 n)).limit k).las = (syncD D1 (wg 1 n)).las := rfl
  generalize hD3 : (syncD D1 (wg 1 n)).limit k = D3 at *
  have hl3 := c3.len
  have k4 := sync_leaves (g := wg 2 n) c3.cache (wg_ok 2 n h2) (wg_in 2 n h2 hl3) (by have := wg_len 2 n; omega) (by omega) c3.head
  have hl4 : (syncD D3 (wg 2 n)).las.length = 200 := by rw [syncD_len]; exact hl3
  generalize syncD D3 (wg 2 n) = D4 at *
  rw [crash_fresh] at hok ⊢
  have hL : (putAll D4.las (pick D4.cache bs)).length = 200 := by rw [putAll_length]; exact hl4
  have kc := k4.crash bs
  have hlive : deadB D4 = false → ∀ j, j < n → rh (putAll D4.las (pick D4.cache bs)) (48 + 3 * j) = secStr [2] := fun hd j hj => by
    have e : putAll D4.las (pick D4.cache bs) = D4.las := by rw [k4.cache hd]; simp [pick, putAll]
    rw [e, rh_head (k4.head hd), k4.home hd _ (by omega) (by omega)]
    exact wg_over 2 n j hj _
  generalize putAll D4.las (pick D4.cache bs) = L at *
  obtain ⟨c5, v5, d5⟩ := open_fresh hok (by omega)
  refine ⟨d5, hL, ?_⟩
  have hr : ∀ j, j < n → LogS.read ⟨openD (Dk.fresh L), [], [], []⟩ (48 + 3 * j) = rh L (48 + 3 * j) := fun j hj => by
    rw [c5.read rfl rfl, v5 _ (by omega) (by omega)]
  cases hd : deadB D4
  · exact ⟨2, .inr rfl, fun j hj => (hr j hj).trans (hlive hd j hj)⟩
  · rw [hl3] at kc
    rcases kc with kc | kc
    · exact ⟨1, .inl ⟨rfl, rfl⟩, fun j hj => (hr j hj).trans ((kc _ (by omega) (by omega)).trans (by show D3.las.getD _ _ = _; rw [e3, v2 _ (by omega) (by omega)]; exact wg_over 1 n j hj _))⟩
    · exact ⟨2, .inr rfl, fun j hj => (hr j hj).trans ((kc _ (by omega) (by omega)).trans (wg_over 2 n j hj _))⟩

end Go.Proofs.YtibmillfankjfaaGreatDoor
