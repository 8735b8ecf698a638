/- What the reference log's Read answers; its lists copied. -/
import Derived.Test.YtibmillfankjfaaGreatDoorRefD
namespace Go.Proofs.YtibmillfankjfaaGreatDoor
open Go.RowKit
set_option maxRecDepth 100000

/-- What the reference log reads. -/
def rread (H : List ByteArray) (W : Grp) (i : Nat) : ByteArray := (glook W i).getD (H.getD i default)

theorem glook_first : ∀ (W : Grp) (i k : Nat) (hk : k < W.length), (∀ t (h : t < W.length), t < k → (W[t]).1 ≠ i) → (W[k]).1 = i → glook W i = some (W[k]).2
  | [], i, k, hk, _, _ => by simp at hk
  | x :: W, i, 0, _, _, e => by
    simp only [List.getElem_cons_zero] at e
    rw [glook_cons, if_pos e]; rfl
  | x :: W, i, k + 1, hk, h, e => by
    have h0 := h 0 (by simp) (by omega)
    simp only [List.getElem_cons_zero] at h0
    simp only [List.getElem_cons_succ] at e
    rw [glook_cons, if_neg h0]
    exact glook_first W i k (by simpa using hk) (fun t ht hlt => by have := h (t + 1) (by simpa using ht) (by omega); simpa using this) e

theorem glook_none_all {W : Grp} {i : Nat} (h : ∀ t (h : t < W.length), (W[t]).1 ≠ i) : glook W i = none := by
  have := glook_no h
  cases e : glook W i with
  | none => rfl
  | some s => rw [e] at this; cases this

/-- A copy of what waits, of its own. -/
theorem WaitAt.copied {N : Nat → Prop} {w w2 : World} {v v8 : Value} {ks : List (Nat × Value)} {W : Grp} (h : WaitAt N w v ks W) {F : Nat → Prop} (k1 : Keep F w w2) (hF : ∀ x, N x → ¬ F x) (hr : Row w2 93 2 v8 W.length (wcells ks)) (ho : InN (more N w w2) v8) : WaitAt (more N w w2) w2 v8 ks W :=
  ⟨hr, ho, h.len, fun j hj hj' => ⟨(h.each j hj hj').1, ((h.each j hj hj').2.keep k1 hF).mono (fun _ h => .inl h)⟩⟩

set_option maxHeartbeats 4000000 in
theorem refread_walk {w : World} {N : Nat → Prop} {r : Nat} {vh vw vs : Value} {us : List Value} {ks : List (Nat × Value)} {H : List ByteArray} {W : Grp} (h : RefAt N w r vh vw vs us ks H W)
    (hW : W.length ≤ 40) (hH : H.length = 128) (i : Nat) (hi : i < 128) (u : Value) (hu1 : ∀ k (h1 : k < W.length) (h2 : k < ks.length), (∀ t (h : t < W.length), t < k → (W[t]).1 ≠ i) → (W[k]).1 = i → (ks[k]).2 = u) (hu2 : (∀ t (h : t < W.length), (W[t]).1 ≠ i) → us[i]? = some u) :
    Calls Tryz.prog 31 #[.pointer (some ⟨r, 0, none⟩), .int .i64 (i : Int)] w fun e w' => e = .returned u ∧ w = w' := by
  have HR := Lib.hid h; have HU1 := Lib.hid hu1; have HU2 := Lib.hid hu2
  have c0 := h.cell 0
  have c1 := h.cell 1
  simp only [List.getElem?_toArray, List.getElem?_cons_zero, List.getElem?_cons_succ] at c0 c1
  have HV := Lib.hid h.wait
  obtain ⟨aw, capw, rfl, hcw, hcw2⟩ := h.wait.row.slice
  obtain ⟨gh, oh, caph, rfl, hch, hch2⟩ := h.homes.row.full (by omega)
  unfold maxLen at hcw2 hch2
  have HCH : Hid (∀ u0, us[i]? = some u0 → w.cell? ⟨gh, oh + i, none⟩ = some u0) := Lib.hid (fun u0 hu0 => by rw [h.homes.row.cellAt i (by omega)]; exact hu0)
  obtain ⟨n, hn⟩ : ∃ n, n = W.length := ⟨_, rfl⟩
  have HNW := Lib.hid hn
  rw [← hn] at HR HV c1 hcw hW
  rw [hH] at HR c0 hch
  clear h hn hH hu1 hu2
  go_enter Tryz.func31, Tryz.ntmps31
  go_wp2
  go_loop [5] (fun j => ∃ k : Nat, k ≤ n ∧ j = .int .i64 k ∧ ∀ t (h : t < W.length), t < k → (W[t]).1 ≠ i) (fun j => n - (intOf j).toNat)
  case atStart => exact ⟨0, by omega, rfl, fun t _ h => by omega⟩
  case round =>
    obtain ⟨k, hk, rfl, hF⟩ := hrel
    have HF := Lib.hid hF
    clear hF
    by_cases hlt : k < n
    · have hkW : k < W.length := by rw [← HNW.out]; exact hlt
      obtain ⟨gw, ow, rfl⟩ : ∃ gw ow, aw = some ⟨gw, ow, none⟩ := by
        obtain ⟨g, o, cap, e, _⟩ := HV.out.row.full (by omega)
        simp only [Value.slice.injEq] at e
        exact ⟨g, o, e.1⟩
      have c2 := HV.out.key (by rw [HNW.out]) k hkW
      have hk' : k < ks.length := by rw [HV.out.len]; exact hkW
      have x1 : w.cell? ⟨gw, ow + k * 2 + 1, none⟩ = some (ks[k]).2 := by
        have hr := HV.out.row
        rw [← HNW.out] at hr
        rw [Nat.add_assoc, hr.cellAt (k * 2 + 1) (by omega), (wcells_get ks k hk').2]
      obtain ⟨key, hkey⟩ : ∃ key, (W[k]).1 = key := ⟨_, rfl⟩
      rw [hkey] at c2
      have HK := Lib.hid hkey
      clear hkey
      by_cases he : key = i
      · subst he
        rw [HU1.out k hkW hk' (fun t ht hlt => HF.out t ht hlt) HK.out] at x1
        go_wp2
        go_ret
        exact ⟨rfl, rfl⟩
      · go_wp2
        go_round
        case rel => exact ⟨k + 1, by omega, by go_num, fun t ht h => by
          rcases Nat.lt_succ_iff_lt_or_eq.1 h with h | rfl
          · exact HF.out t ht h
          · rw [HK.out]; exact he⟩
        case measure => simp [intOf]; omega
    · obtain rfl : k = n := by omega
      have ch := HCH.out u (HU2.out (fun t ht => HF.out t ht (by rw [HNW.out]; exact ht)))
      go_wp2
      go_ret
      exact ⟨rfl, rfl⟩

theorem first_or_none (i : Nat) : ∀ W : Grp, (∃ k, ∃ h : k < W.length, (W[k]).1 = i ∧ ∀ t (h : t < W.length), t < k → (W[t]).1 ≠ i) ∨ ∀ t (h : t < W.length), (W[t]).1 ≠ i
  | [] => .inr (fun t h => by simp at h)
  | x :: W => by
    by_cases e : x.1 = i
    · exact .inl ⟨0, by simp, by simpa using e, fun t _ h => by omega⟩
    · rcases first_or_none i W with ⟨k, hk, he, hm⟩ | hno
      · refine .inl ⟨k + 1, by simpa using hk, by simpa using he, fun t ht hlt => ?_⟩
        cases t with
        | zero => simpa using e
        | succ t => simpa using hm t (by simpa using ht) (by omega)
      · refine .inr (fun t ht => ?_)
        cases t with
        | zero => simpa using e
        | succ t => simpa using hno t (by simpa using ht)

theorem refread_any {w : World} {N : Nat → Prop} {r : Nat} {vh vw vs : Value} {us : List Value} {ks : List (Nat × Value)} {H : List ByteArray} {W : Grp} (h : RefAt N w r vh vw vs us ks H W)
    (hW : W.length ≤ 40) (hH : H.length = 128) (i : Nat) (hi : i < 128) :
    ∃ u, SecI N w u (rread H W i) ∧ ∀ w1, RefAt N w1 r vh vw vs us ks H W → Calls Tryz.prog 31 #[.pointer (some ⟨r, 0, none⟩), .int .i64 (i : Int)] w1 fun e w' => e = .returned u ∧ w1 = w' := by
  rcases first_or_none i W with ⟨k, hk, he, hm⟩ | hno
  · have hk' : k < ks.length := by rw [h.wait.len]; exact hk
    refine ⟨(ks[k]).2, ?_, fun w1 h1 => refread_walk h1 hW hH i hi _ (fun j h1 h2 hj e => ?_) (fun hn => (hn k hk he).elim)⟩
    · have e : rread H W i = (W[k]).2 := by rw [rread, glook_first W i k hk hm he]; rfl
      rw [e]
      exact (h.wait.each k hk hk').2
    · rcases Nat.lt_trichotomy j k with hl | rfl | hl
      · exact (hm j h1 hl e).elim
      · rfl
      · exact (hj k hk hl he).elim
  · obtain ⟨u0, hu0, hs0⟩ := h.homes.each i (by omega)
    refine ⟨u0, ?_, fun w1 h1 => refread_walk h1 hW hH i hi _ (fun j h1 h2 _ e => (hno j h1 e).elim) (fun _ => hu0)⟩
    have e : rread H W i = H[i]'(by omega) := by rw [rread, glook_none_all hno]; simp [List.getD_eq_getElem?_getD, List.getElem?_eq_getElem (show i < H.length by omega)]
    rw [e]
    exact hs0

end Go.Proofs.YtibmillfankjfaaGreatDoor
