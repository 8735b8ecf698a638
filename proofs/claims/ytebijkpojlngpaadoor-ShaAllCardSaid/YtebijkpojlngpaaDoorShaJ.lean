/- ShaAll and ShaPassword answer true: any bytes have their hash; a name and a word are hashed with a colon between. -/
import Derived.Test.YtebijkpojlngpaaDoorShaI
namespace Go.Proofs.YtebijkpojlngpaaDoor.Sha
open Go.RowKit Go.Proofs.YtebijkpojlngpaaDoor
set_option maxRecDepth 100000

/-- u reads as the bytes m wherever vb reads as the bytes l. -/
def Shorter8 (vb u : Value) (l m : List UInt8) : Prop := ∀ w0, Seen w0 1 vb l.length (bcells l) → Seen w0 1 u m.length (bcells m)

set_option maxHeartbeats 1000000 in
/-- At most n of the bytes. -/
theorem short8_any {w : World} {vb : Value} {l : List UInt8} (h : Seen w 1 vb l.length (bcells l)) (n : Nat) (hn : n ≤ 1000) :
    Calls Tryd.prog 6 #[vb, .int .i64 (n : Int)] w fun e w' => ∃ u, e = .returned u ∧ Shorter8 vb u l (l.take n) ∧ w = w' := by
  obtain ⟨_, ab, cap, rfl, hlc, hcm, _⟩ := h
  unfold maxLen at hcm
  by_cases t : n < l.length
  · have HR : Hid (Shorter8 (.slice ab l.length cap) (.slice ab n cap) l (l.take n)) := Lib.hid (by
      intro w0 h
      obtain ⟨h1, a, c, hv, h2, h3, h4⟩ := h
      simp only [Value.slice.injEq] at hv
      obtain ⟨rfl, _, rfl⟩ := hv
      have e : (l.take n).length = n := by simp; omega
      rw [e]
      refine ⟨by simp [bcells]; omega, _, _, rfl, by omega, h3, ?_⟩
      rcases h4 with h4 | ⟨g, off, hg, hlt, hc⟩
      · omega
      · refine .inr ⟨g, off, hg, hlt, fun j u hu => hc j u ?_⟩
        simp only [bcells, List.map_take, List.getElem?_take] at hu
        split at hu
        · exact hu
        · cases hu)
    go_enter Tryd.func6, Tryd.ntmps6
    go_wp2
    go_ret
    exact ⟨_, rfl, HR.out, rfl⟩
  · have HR : Hid (Shorter8 (.slice ab l.length cap) (.slice ab l.length cap) l (l.take n)) := Lib.hid (by
      rw [List.take_of_length_le (by omega)]; exact fun _ h => h)
    go_enter Tryd.func6, Tryd.ntmps6
    go_wp2
    go_ret
    exact ⟨_, rfl, HR.out, rfl⟩

theorem short8_is {w : World} {vb : Value} {l m : List UInt8} (n : Nat) (h : Seen w 1 vb l.length (bcells l)) (hm : m = l.take n) (hn : n ≤ 1000) :
    Calls Tryd.prog 6 #[vb, .int .i64 (n : Int)] w fun e w' => ∃ u, e = .returned u ∧ Seen w 1 u m.length (bcells m) ∧ w = w' := by
  subst hm; exact (short8_any h n hn).mono fun e w' ⟨u, he, hu, hw⟩ => ⟨u, he, by subst hw; exact hu _ h, hw⟩


theorem slArr (g : Nat) (w : World) : (Instr.sliceAt 25 (.pointer (some ⟨g, 0, none⟩)) none none none).run Tryd.prog w = .ok (.slice (some ⟨g, 0, none⟩) 32 32) w := by kernel_rfl

theorem BAt.seen {w : World} {t : TypeId} {g n : Nat} {L : List UInt8} (h : BAt w t g L) (hn : L.length = n) (hm : n ≤ maxLen) : Seen w 1 (.slice (some ⟨g, 0, none⟩) n n) n (bcells L) := by
  refine ⟨by simp [bcells, hn], _, _, rfl, Nat.le_refl _, hm, .inr ⟨g, 0, rfl, lt_of_block h, fun j u hu => ?_⟩⟩
  rw [Nat.zero_add]
  have hj : j < L.length := by have := (List.getElem?_eq_some_iff.1 hu).1; simpa [bcells] using this
  rw [h.cell j hj, ← hu]
  simp [bcells, List.getElem?_eq_getElem hj]

theorem hash_any {w : World} {v : Value} {b : List UInt8} (h : Seen w 1 v b.length (bcells b)) (hb : b.length ≤ 1000000) :
    Calls Tryd.prog 8 #[v] w fun e w' => ∃ g, e = .returned (.slice (some ⟨g, 0, none⟩) 32 32) ∧ BAt w' 25 g (sumOf b) ∧ Keep (fun _ => False) w w' := by
  obtain ⟨D, hD⟩ : ∃ D, D = sumOf b := ⟨_, rfl⟩
  have hDl : D.length = 32 := by rw [hD]; rfl
  have hDs : (bC D).size = 32 := by rw [bC_size, hDl]
  have HSM := Lib.hid (sha_any h hb)
  obtain ⟨Z, HZ, hZ, HZZ⟩ := z32
  rw [← hD] at HSM ⊢
  have hsl := slArr
  obtain ⟨_, ab, cap, rfl, hlc, hcm, _⟩ := h
  obtain ⟨n, hn⟩ : ∃ n, n = b.length := ⟨_, rfl⟩
  rw [← hn] at HSM ⊢
  clear hD hn
  go_enter Tryd.func8, Tryd.ntmps8
  go_wp2_with fail
  refine HSM.out.mono ?_
  rintro e w2 ⟨rfl, k2⟩
  have K3 := Lib.hid (k2.alloc (.cells (bC D) 25))
  have C3 : Hid (BAt (w2.alloc (.cells (bC D) 25)) 25 w2.heap.size D) := Lib.hid (heap_alloc_new w2 _)
  clear k2
  go_wp2_with (first | (refine wpList_var_arr HZ (by rw [hDs]; exact Tryd.info32b) (by rw [hDs, hZ]) (bC_one _) rfl rfl rfl _ _ rfl rfl rfl ?_))
  go_ret
  exact ⟨_, rfl, C3.out, K3.out⟩

theorem colon_len (a b : ByteArray) : (colon a b).length = a.size + 1 + b.size := by
  have h1 : a.data.toList.length = a.size := Array.length_toList
  have h2 : b.data.toList.length = b.size := Array.length_toList
  rw [colon, List.length_append, List.length_cons, h1, h2]; omega

theorem conv_any (a b : ByteArray) (w : World) (ha : a.size ≤ 1000) (hb : b.size ≤ 1000) : ∃ cap w1, (convert 9 22 (.string (a ++ ({ data := #[58] } : ByteArray) ++ b))).run Tryd.prog w = .ok (.slice (some ⟨w.heap.size, 0, none⟩) (a.size + 1 + b.size) cap) w1 ∧ Seen w1 1 (.slice (some ⟨w.heap.size, 0, none⟩) (a.size + 1 + b.size) cap) (colon a b).length (bcells (colon a b)) ∧ Keep (fun _ => False) w w1 := by
  have hsz := colon_size a b
  have hdt := colon_data a b
  obtain ⟨cap, w1, hr, hrow, hk, _⟩ := run_bytes_rowS (P := Tryd.prog) w 9 22 5 (a ++ ({ data := #[58] } : ByteArray) ++ b) Tryd.underlying9 Tryd.underlying22 Tryd.underlying5 (by rw [hsz]; unfold maxLen; omega)
  rw [byteCells_b, hdt, hsz] at hrow
  rw [hsz] at hr
  have hl := colon_len a b
  exact ⟨cap, w1, hr, by rw [hl]; exact hrow.seen, hk⟩

set_option maxHeartbeats 2000000 in
theorem shaPass_any {w : World} {n p : ByteArray} (hR : Roots w) :
    Calls Tryd.prog 4 #[.string n, .string p] w fun e w' => e = .returned (.bool true) ∧ Keep (fun _ => False) w w' := by
  have HR := Lib.hid hR
  clear hR
  have HE : Hid (∀ (x : ByteArray) (k : Nat), k ≤ x.size → (x.extract 0 k).size = k) := Lib.hid (fun x k h => by simp [ByteArray.size_extract]; omega)
  have hn : (∃ a, 60 < n.size ∧ n.extract 0 60 = a ∧ (a.size ≤ 60)) ∨ (∃ a, a = n ∧ a.size ≤ 60) := by
    by_cases c : 60 < n.size
    · exact .inl ⟨_, c, rfl, by rw [HE.out _ _ (by omega)]; omega⟩
    · exact .inr ⟨_, rfl, by omega⟩
  have hp : (∃ b, 130 < p.size ∧ p.extract 0 130 = b ∧ (b.size ≤ 130)) ∨ (∃ b, b = p ∧ b.size ≤ 130) := by
    by_cases c : 130 < p.size
    · exact .inl ⟨_, c, rfl, by rw [HE.out _ _ (by omega)]; omega⟩
    · exact .inr ⟨_, rfl, by omega⟩
  rcases hn with ⟨a, c1, ha, HA⟩ | ⟨a, hna, HA⟩ <;> rcases hp with ⟨b, c2, hb, HB⟩ | ⟨b, hpb, HB⟩
  any_goals subst hna
  any_goals subst hpb
  all_goals
    have hasz := Lib.hid (And.intro HA HB)
    go_enter Tryd.func4, Tryd.ntmps4
    go_wp2_with fail
    refine (begun8_any HR.out).mono ?_
    rintro e w1 ⟨rfl, k1⟩
    have K1 := Lib.hid k1
    have R1 := Lib.hid (HR.out.keep k1 (fun h => h))
    clear k1
    go_wp2_with fail
    refine (password_any R1.out (by have := hasz.out; omega) (by have := hasz.out; omega)).mono ?_
    rintro e w2 ⟨rfl, k2⟩
    have K2 := Lib.hid (K1.out.trans k2 (fun _ h => h.elim))
    clear k2
    go_wp2_with fail
    refine (rpassword_any (by have := hasz.out; omega) (by have := hasz.out; omega)).mono ?_
    rintro e w3 ⟨rfl, k3⟩
    have K3 := Lib.hid (K2.out.trans k3 (fun _ h => h.elim))
    clear k3
    go_wp2_with fail
    refine (password_any (HR.out.keep K3.out (fun h => h)) (by have := hasz.out; omega) (by have := hasz.out; omega)).mono ?_
    rintro e w4 ⟨rfl, k4⟩
    have K4 := Lib.hid (K3.out.trans k4 (fun _ h => h.elim))
    clear k4
    obtain ⟨cap, w5, hcv, hse, k5⟩ := conv_any a b w4 (by have := hasz.out; omega) (by have := hasz.out; omega)
    have K5 := Lib.hid (K4.out.trans k5 (fun _ h => h.elim))
    have HX := Lib.hid (hex_any (HR.out.keep K5.out (fun h => h)) hse (by rw [colon_len]; have := hasz.out; omega))
    clear hse k5
    go_wp2_with fail
    refine HX.out.mono ?_
    rintro e w6 ⟨rfl, k6⟩
    have K6 := Lib.hid (K5.out.trans k6 (fun _ h => h.elim))
    clear k6
    go_wp2
    go_ret
    exact ⟨rfl, K6.out⟩

end Go.Proofs.YtebijkpojlngpaaDoor.Sha
