/- WalAll: what 'same' answers. -/
import Derived.Test.YtibmillfankjfaaGreatDoorAllA
import Derived.Deep.QuietTactic
import Derived.BigQuiet
namespace Go.Proofs.YtibmillfankjfaaGreatDoor
open Go.RowKit
set_option maxRecDepth 100000

/-- Log and reference, side by side. -/
structure ARel (w : World) (p r B i : Nat) (wr : World) : Prop where
  ex : ∃ q N vh vw vs us ks ks2 H W W2 g m D, AM w (fun M wr => Two M w wr p q ⟨D, g, m, []⟩ (50 + 100 * i)) r B q N vh vw vs us ks ks2 H W W2 wr ∧ AP D H W W2 g m i

theorem kdrewN (w : World) (n : Nat) : Keep (fun _ => False) w (w.drewN n) := ⟨rfl, rfl, rfl, Nat.le_refl _, fun _ _ _ => rfl⟩

theorem sec_str {w : World} {g off cap : Nat} {e : TypeId} {s : ByteArray} (h : Row w e 1 (.slice (some ⟨g, off, none⟩) 512 cap) 512 (byteCells s)) (hs : s.size = 512) :
    (convert 35 9 (.slice (some ⟨g, off, none⟩) 512 cap)).run Tryz.prog w = .ok (.string s) w := by
  have hb : BytesAt w g off s.data.toList := by
    intro j hj
    have hj' : j < s.size := by simpa using hj
    rw [h.cellAt j (by omega), byteCells_get s j hj']
    rfl
  have := run_string_of_bytes (P := Tryz.prog) hb 35 9 5 512 cap (by rw [Array.length_toList]; exact hs) Tryz.underlying35 Tryz.underlying5 Tryz.underlying9
  rw [this]

set_option maxHeartbeats 4000000 in
theorem same_any {w w1 : World} {p q n r B i : Nat} {N : Nat → Prop} {vh vw vs : Value} {us : List Value} {ks ks2 : List (Nat × Value)} {H : List ByteArray} {W W2 g m : Grp} {D : Dk}
    (h : AM w (fun M wr => Two M w wr p q ⟨D, g, m, []⟩ n) r B q N vh vw vs us ks ks2 H W W2 w1) (hp : AP D H W W2 g m i) (hi : i ≤ 40) :
    Calls Tryz.prog 9 #[.pointer (some ⟨q, 0, none⟩), .pointer (some ⟨r, 0, none⟩)] w1 fun e w' => e = .returned (.bool true) ∧ Keep (fun _ => False) w1 w' := by
  have HM := Lib.hid h; have HP := Lib.hid hp
  have c1 := h.ref.cell 1
  simp only [List.getElem?_toArray, List.getElem?_cons_zero, List.getElem?_cons_succ] at c1
  obtain ⟨aw, capw, rfl, hcw, hcw2⟩ := h.ref.wait.row.slice
  unfold maxLen at hcw2
  have HWL : Hid ((g.length : Int) = (W.length : Int)) := Lib.hid (by rw [hp.refis.len])
  clear h hp
  go_enter Tryz.func9, Tryz.ntmps9
  have HWT : Hid (∀ nn, Calls Tryz.prog 30 #[.pointer (some ⟨q, 0, none⟩)] (w1.drewN nn) fun e w' => e = .returned (.int .i64 (W.length : Int)) ∧ w' = w1.drewN nn) := Lib.hid (fun nn => (wait_g (HM.out.side.lg.go (kdrewN _ _))).mono (fun _ _ h => ⟨by rw [← HWL.out]; exact h.1, h.2.symm⟩))
  go_wp2
  go_quiet (first | (go_at_call 30; refine Calls.quiet_of_same (HWT.out _)))
  go_wp2
  go_loopw [5] (fun iv wr => ∃ k : Nat, 48 ≤ k ∧ k ≤ 128 ∧ iv = .int .i64 k ∧ Keep (fun _ => False) w1 wr) (fun iv _ => 128 - (intOf iv).toNat)
  case atStart => exact ⟨48, by omega, by omega, rfl, kdrewN _ _⟩
  case round =>
    obtain ⟨k, hk1, hk2, rfl, hK⟩ := hrel
    have HK := Lib.hid hK
    clear hK
    by_cases hlt : k < 128
    · go_wp2_with fail
      refine (read_g (HM.out.side.lg.go HK.out) k _ rfl (by show homeB D.las.length _ = true; rw [HP.out.clean.len]; exact home_in hk1 hlt)).mono ?_
      rintro e w2 ⟨v, rfl, hn, _⟩
      have hrd := HP.out.read k hk1 hlt
      rw [hrd] at hn
      obtain ⟨e1, g1, cap1, rfl, hr1, _⟩ := hn.row
      have hs1 := hn.size
      have HK1 := Lib.hid (HK.out.trans hn.keep (fun _ h => h.elim))
      have HR1 := Lib.hid (HM.out.ref.keep HK1.out (fun _ _ h => h) (fun h => h))
      obtain ⟨u, hsu, hcall⟩ := refread_any HR1.out (by have := HP.out.wlen; omega) HP.out.hlen k hlt
      obtain ⟨gu, ou, capu, rfl, _, _⟩ := hsu.row.full (by omega)
      have HRC : Hid (∀ nn, Calls Tryz.prog 31 #[.pointer (some ⟨r, 0, none⟩), .int .i64 (k : Int)] (w2.drewN nn) fun e w' => e = .returned (.slice (some ⟨gu, ou, none⟩) 512 capu) ∧ w' = w2.drewN nn) := Lib.hid (fun nn => (hcall _ (HR1.out.keep (kdrewN w2 nn) (fun _ _ h => h) (fun h => h))).mono (fun _ _ h => ⟨h.1, h.2.symm⟩))
      have q1 : ∀ nn, (convert 35 9 (.slice (some ⟨g1, 0, none⟩) 512 cap1)).run Tryz.prog (w2.drewN nn) = .ok (.string (rread H W k)) (w2.drewN nn) := fun nn => sec_str (hr1.keep (kdrewN w2 nn) (fun _ _ h => h)) hs1
      have q2 : ∀ nn, (convert 35 9 (.slice (some ⟨gu, ou, none⟩) 512 capu)).run Tryz.prog (w2.drewN nn) = .ok (.string (rread H W k)) (w2.drewN nn) := fun nn => sec_str (hsu.row.keep (kdrewN w2 nn) (fun _ _ h => h)) hsu.size
      generalize rread H W k = s1 at *
      clear hn hr1 hsu hcall
      go_wp2
      go_quiet (first | (go_at_call 31; refine Calls.quiet_of_same (HRC.out _)))
      go_wp2
      go_roundw
      case rel => exact ⟨k + 1, by omega, by omega, by go_num, HK1.out.trans (kdrewN _ _) (fun _ h => h.elim)⟩
      case measure => simp [intOf]; omega
    · obtain rfl : k = 128 := by omega
      go_wp2
      go_ret
      exact ⟨rfl, HK.out⟩

end Go.Proofs.YtibmillfankjfaaGreatDoor
