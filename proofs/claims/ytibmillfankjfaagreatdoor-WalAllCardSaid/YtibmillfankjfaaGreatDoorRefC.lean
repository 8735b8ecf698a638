/- What the reference log's Put does. -/
import Derived.Test.YtibmillfankjfaaGreatDoorRefB
namespace Go.Proofs.YtibmillfankjfaaGreatDoor
open Go.RowKit
set_option maxRecDepth 100000

theorem WaitAt.key {N : Nat → Prop} {w : World} {v : Value} {ks : List (Nat × Value)} {W : Grp} (h : WaitAt N w v ks W) {g o cap : Nat} (hv : v = .slice (some ⟨g, o, none⟩) W.length cap) (k : Nat) (hk : k < W.length) :
    w.cell? ⟨g, o + k * 2, none⟩ = some (.int .i64 ((W[k]).1 : Int)) := by
  have hk' : k < ks.length := by rw [h.len]; exact hk
  have hr := h.row
  subst hv
  rw [hr.cellAt (k * 2) (by omega), (wcells_get ks k hk').1, (h.each k hk hk').1]

/-- What Put comes to. -/
def PutR (N : Nat → Prop) (w : World) (r : Nat) (vh vs : Value) (us : List Value) (H : List ByteArray) (W : Grp) (i : Nat) (s : ByteArray) (ev : Ending) (w' : World) : Prop :=
  ((glook W i).isSome = false ∧ W.length = 40 ∧ ev = .returned (.bool false) ∧ w = w') ∨
  (((glook W i).isSome = true ∨ W.length < 40) ∧ ev = .returned (.bool true) ∧ ∃ vw' ks', RefAt (more N w w') w' r vh vw' vs us ks' H (rput W i s) ∧ Keep (fun x => x = r) w w')

theorem glook_no {W : Grp} {i : Nat} (h : ∀ t (h : t < W.length), (W[t]).1 ≠ i) : (glook W i).isSome = false := by
  cases e : glook W i with
  | none => rfl
  | some t =>
    simp only [glook, Option.map_eq_some_iff] at e
    obtain ⟨x, hx, _⟩ := e
    obtain ⟨k, hk, rfl⟩ := List.mem_iff_getElem.1 (List.mem_of_find?_eq_some hx)
    have := List.find?_some hx
    exact (h k hk (by simpa using this)).elim

theorem glook_yes {W : Grp} {k : Nat} (hk : k < W.length) : (glook W (W[k]).1).isSome = true := by
  cases e : glook W (W[k]).1 with
  | some t => rfl
  | none => exact (glook_noneW (W := W) (i := (W[k]).1) (by rw [e]; rfl) (List.mem_map.2 ⟨W[k], List.getElem_mem hk, rfl⟩)).elim

theorem put_found {w w2 : World} {N : Nat → Prop} {r : Nat} {vh vw vs : Value} {us : List Value} {ks : List (Nat × Value)} {H : List ByteArray} {W : Grp} (h : RefAt N w r vh vw vs us ks H W)
    (hnd : (W.map (·.1)).Nodup) {k : Nat} (hk : k < W.length) (key : Nat) (hkey : (W[k]).1 = key) {s : ByteArray} (hs : s.size = 512) (kk : Keep (fun _ => False) w w2) {g8 o8 cap8 g9 o9 cap9 : Nat}
    (q8 : Row w2 93 2 (.slice (some ⟨g8, o8, none⟩) W.length cap8) W.length (wcells ks)) (r9 : Row w2 5 1 (.slice (some ⟨g9, o9, none⟩) 512 cap9) 512 (byteCells s))
    (b8 : w.heap.size ≤ g8 ∧ g8 < w2.heap.size) (b9 : w.heap.size ≤ g9 ∧ g9 < w2.heap.size) (h89 : g9 ≠ g8) :
    PutR N w r vh vs us H W key s (.returned (.bool true)) ((w2.setCell ⟨g8, o8 + k * 2 + 1, none⟩ (.slice (some ⟨g9, o9, none⟩) 512 cap9)).setCell ⟨r, 1, none⟩ (.slice (some ⟨g8, o8, none⟩) W.length cap8)) := by
  have hlt0 := lt_of_block h.head
  have hne8 : ¬ r = g8 := by omega
  have hne9 : ¬ r = g9 := by omega
  have ka : Keep (fun x => x = g8) w2 (w2.setCell ⟨g8, o8 + k * 2 + 1, none⟩ (.slice (some ⟨g9, o9, none⟩) 512 cap9)) := (Keep.refl (fun x => x = g8) w2).setCell _ _ (.inl rfl)
  have kr : ∀ wx : World, Keep (fun x => x = r) wx (wx.setCell ⟨r, 1, none⟩ (.slice (some ⟨g8, o8, none⟩) W.length cap8)) := fun wx => (Keep.refl (fun x => x = r) wx).setCell _ _ (.inl rfl)
  have h1 : (w2.setCell ⟨g8, o8 + k * 2 + 1, none⟩ (.slice (some ⟨g9, o9, none⟩) 512 cap9)).heap[r]? = some (.cells #[vh, vw, vs] 64 (0, 0)) := by
    rw [ka.block r (Nat.lt_of_lt_of_le hlt0 kk.size) hne8]; exact (kk.block r hlt0 (fun h => h)).trans h.head
  have h2 := q8.stored (k * 2 + 1) (.slice (some ⟨g9, o9, none⟩) 512 cap9)
  rw [← Nat.add_assoc] at h2
  have h3 := h2.keep (kr _) (fun x hx e => by simp [Value.ownBlock] at hx; omega)
  have h9 := (r9.keep ka (fun x hx e => by simp [Value.ownBlock] at hx; omega)).keep (kr _) (fun x hx e => by simp [Value.ownBlock] at hx; omega)
  have h4 : Keep (fun x => x = r) w _ := ((kk.mono (G := fun x => x = r) (fun _ _ h => h.elim)).trans ka (fun x h => .inr (by omega))).trans (kr _) (fun x h => .inl h)
  have hsz : w2.heap.size ≤ ((w2.setCell ⟨g8, o8 + k * 2 + 1, none⟩ (.slice (some ⟨g9, o9, none⟩) 512 cap9)).setCell ⟨r, 1, none⟩ (.slice (some ⟨g8, o8, none⟩) W.length cap8)).heap.size := by simp
  generalize hw' : (w2.setCell ⟨g8, o8 + k * 2 + 1, none⟩ (.slice (some ⟨g9, o9, none⟩) 512 cap9)).setCell ⟨r, 1, none⟩ (.slice (some ⟨g8, o8, none⟩) W.length cap8) = w' at *
  have hh : w'.heap[r]? = some (.cells #[vh, .slice (some ⟨g8, o8, none⟩) W.length cap8, vs] 64 (0, 0)) := by rw [← hw', heap_setCell_at _ h1]; rfl
  refine .inr ⟨.inl (by rw [← hkey]; exact glook_yes hk), rfl, .slice (some ⟨g8, o8, none⟩) W.length cap8, ks.set k (key, .slice (some ⟨g9, o9, none⟩) 512 cap9), ?_, h4⟩
  rw [rput_set hnd s hk hkey]
  refine h.turnW h4 hh (h.wait.set h4 (fun x hx e => h.out (e ▸ hx)) hk key hkey s h3 (fun x hx => ?_) ⟨h9, fun x hx => ?_, hs⟩)
  · simp [Value.ownBlock] at hx; exact .inr (by omega)
  · simp [Value.ownBlock] at hx; exact .inr (by omega)

theorem put_push {i : Nat} {w w2 w3 : World} {N : Nat → Prop} {r : Nat} {vh vw vs : Value} {us : List Value} {ks : List (Nat × Value)} {H : List ByteArray} {W : Grp} (h : RefAt N w r vh vw vs us ks H W)
    (hno : ∀ t (h : t < W.length), (W[t]).1 ≠ i) (hlt : W.length < 40) {s : ByteArray} (hs : s.size = 512) (kk : Keep (fun _ => False) w w2) {v8 v10 : Value} {g9 o9 cap9 : Nat}
    (hrh : w3.heap[r]? = some (.cells #[vh, vw, vs] 64 (0, 0))) (k3 : Keep (fun b => v8.ownBlock = some b) w2 w3) (b8 : ∀ b, v8.ownBlock = some b → w.heap.size ≤ b)
    (r10 : Row w3 93 2 v10 (W.length + 1) (wcells ks ++ [.int .i64 (i : Int), .slice (some ⟨g9, o9, none⟩) 512 cap9])) (g10 : ∀ b, v10.ownBlock = some b → w.heap.size ≤ b)
    (r9 : Row w2 5 1 (.slice (some ⟨g9, o9, none⟩) 512 cap9) 512 (byteCells s)) (b9 : w.heap.size ≤ g9) (h89 : v8.ownBlock ≠ some g9) :
    PutR N w r vh vs us H W i s (.returned (.bool true)) (w3.setCell ⟨r, 1, none⟩ v10) := by
  have hlt0 := lt_of_block h.head
  have kr : Keep (fun x => x = r) w3 (w3.setCell ⟨r, 1, none⟩ v10) := (Keep.refl (fun x => x = r) w3).setCell _ _ (.inl rfl)
  have hb10 : ∀ b, v10.ownBlock = some b → b < w3.heap.size := fun b hb => r10.lt hb
  have hb9 : g9 < w3.heap.size := Nat.lt_of_lt_of_le (r9.lt (k := g9) rfl) k3.size
  have h10 := r10.keep kr (fun x hx e => by have := g10 x hx; omega)
  have h9 := (r9.keep k3 (fun x hx e => by simp [Value.ownBlock] at hx; subst hx; exact h89 e)).keep kr (fun x hx e => by simp [Value.ownBlock] at hx; omega)
  have h4 : Keep (fun x => x = r) w _ := ((kk.mono (G := fun x => x = r) (fun _ _ h => h.elim)).trans k3 (fun x h => .inr (b8 x h))).trans kr (fun x h => .inl h)
  have hsz : (w3.setCell ⟨r, 1, none⟩ v10).heap.size = w3.heap.size := by simp
  have hh : (w3.setCell ⟨r, 1, none⟩ v10).heap[r]? = some (.cells #[vh, v10, vs] 64 (0, 0)) := by rw [heap_setCell_at _ hrh]; rfl
  generalize w3.setCell ⟨r, 1, none⟩ v10 = w' at *
  refine .inr ⟨.inr hlt, rfl, v10, ks ++ [(i, .slice (some ⟨g9, o9, none⟩) 512 cap9)], ?_, h4⟩
  rw [rput_new s hno]
  refine h.turnW h4 hh (h.wait.push h4 (fun x hx e => h.out (e ▸ hx)) i s h10 (fun x hx => ?_) ⟨h9, fun x hx => ?_, hs⟩)
  · have := g10 x hx; have := hb10 x hx; exact .inr (by omega)
  · simp [Value.ownBlock] at hx; exact .inr (by omega)

set_option maxHeartbeats 4000000 in
theorem refput_any {w : World} {N : Nat → Prop} {r : Nat} {vh vw vs : Value} {us : List Value} {ks : List (Nat × Value)} {H : List ByteArray} {W : Grp} (h : RefAt N w r vh vw vs us ks H W)
    (hnd : (W.map (·.1)).Nodup) (hW : W.length ≤ 40) (i : Nat) (z : Int) (hz : z = (i : Int)) (hi : i < 1000000) {vb : Value} {e : TypeId} {s : ByteArray} (hb : Row w e 1 vb 512 (byteCells s)) (hs : s.size = 512) :
    Calls Tryz.prog 24 #[.pointer (some ⟨r, 0, none⟩), .int .i64 z, vb] w (PutR N w r vh vs us H W i s) := by
  subst hz
  have HR := Lib.hid h; have HND := Lib.hid hnd; have HB := Lib.hid hb; have HS := Lib.hid hs
  obtain ⟨i0, hi0, hz0, hz1, hz2⟩ := info_parts Tryz.infoB
  obtain ⟨i1, hi1, hy0, hy1, hy2⟩ := info_parts Tryz.infoWrite
  have HI := Lib.hid hi0; have HZ0 := Lib.hid hz0; have HZ1 := Lib.hid hz1; have HZ2 := Lib.hid hz2
  have HJ := Lib.hid hi1; have HY0 := Lib.hid hy0; have HY1 := Lib.hid hy1; have HY2 := Lib.hid hy2
  have c1 := h.cell 1
  have f1 := h.free 1
  simp only [List.getElem?_toArray, List.getElem?_cons_zero, List.getElem?_cons_succ] at c1
  have HV := Lib.hid h.wait
  obtain ⟨aw, capw, rfl, hcw, hcw2⟩ := h.wait.row.slice
  obtain ⟨ab, capb, rfl, hcb, hcb2⟩ := hb.slice
  unfold maxLen at hcw2 hcb2
  obtain ⟨n, hn⟩ : ∃ n, n = W.length := ⟨_, rfl⟩
  have HNW := Lib.hid hn
  rw [← hn] at HR HV c1 hcw hW
  clear h hnd hb hs hi0 hz0 hz1 hz2 hi1 hy0 hy1 hy2 hn
  go_enter Tryz.func24, Tryz.ntmps24
  go_wp2
  go_loop [7] (fun j => ∃ k : Nat, k ≤ n ∧ j = .int .i64 k ∧ ∀ t (h : t < W.length), t < k → (W[t]).1 ≠ i) (fun j => n - (intOf j).toNat)
  case atStart => exact ⟨0, by omega, rfl, fun t _ h => by omega⟩
  case round =>
    obtain ⟨k, hk, rfl, hF⟩ := hrel
    have HF := Lib.hid hF
    clear hF
    by_cases hlt : k < n
    · have hkW : k < W.length := by rw [← HNW.out]; exact hlt
      obtain ⟨gw, ow, rfl⟩ : ∃ gw ow, aw = some ⟨gw, ow, none⟩ := by
        obtain ⟨g, o, cap, e, _⟩ := HV.out.row.full (by omega)
        simp only [Value.slice.injEq] at e
        exact ⟨g, o, e.1⟩
      have c2 := HV.out.key (by rw [HNW.out]) k hkW
      have HKEY : Hid ((W[k]).1 = (W[k]).1) := Lib.hid rfl
      obtain ⟨key, hkey⟩ : ∃ key, (W[k]).1 = key := ⟨_, rfl⟩
      rw [hkey] at c2
      have HK := Lib.hid hkey
      clear hkey HKEY
      by_cases he : key = i
      · subst he
        obtain ⟨gb, ob, rfl⟩ : ∃ gb ob, ab = some ⟨gb, ob, none⟩ := by
          obtain ⟨g, o, cap, e, _⟩ := HB.out.full (by omega)
          simp only [Value.slice.injEq] at e
          exact ⟨g, o, e.1⟩
        have hrow : Row w 93 2 (.slice (some ⟨gw, ow, none⟩) n capw) n (wcells ks) := by have := HV.out.row; rw [← HNW.out] at this; exact this
        have HROW := Lib.hid hrow
        clear hrow
        go_wp2_with (at_builtin; go_loud (refine wpList_append_row _ rfl (.const (.slice none 0 0)) (.tmp 31) rfl Tryz.underlying62 HJ.out HY0.out HY1.out HY2.out rfl rfl (Row.nil _ _ _) rfl (HROW.out.src Tryz.underlying62 HV.out.one) (by unfold maxLen; omega) (by omega) ?k1))
        case k1 =>
          intro v8 w1 r1 r2 r3 _
          obtain ⟨g8, o8, cap8, rfl, hc8, _⟩ := r1.full (by omega)
          have hg8 : w.heap.size ≤ g8 ∧ g8 < w1.heap.size := by
            rcases r3 g8 rfl with h | h
            · simp [Value.ownBlock] at h
            · exact h
          have k1 : Keep (fun _ => False) w w1 := r2.mono (fun x _ hx => by simp [Value.ownBlock] at hx)
          have R1 := Lib.hid r1; have K1 := Lib.hid k1; have G8 := Lib.hid hg8
          have HB1 := Lib.hid (HB.out.keep k1 (fun _ _ h => h))
          clear r1 r2 r3 k1 hg8
          go_wp2_with (at_builtin; go_loud (refine wpList_append_row _ rfl (.const (.slice none 0 0)) (.tmp 35) rfl Tryz.underlying35 HI.out HZ0.out HZ1.out HZ2.out rfl rfl (Row.nil _ _ _) rfl (HB1.out.src Tryz.underlying35 (byteCells_one s)) (by unfold maxLen; omega) (by omega) ?k2))
          case k2 =>
            intro v36 w2 r1 r2 r3 _
            obtain ⟨g9, o9, cap9, rfl, hc9, _⟩ := r1.full (by omega)
            have hg9 : w1.heap.size ≤ g9 ∧ g9 < w2.heap.size := by
              rcases r3 g9 rfl with h | h
              · simp [Value.ownBlock] at h
              · exact h
            have k2 : Keep (fun _ => False) w1 w2 := r2.mono (fun x _ hx => by simp [Value.ownBlock] at hx)
            have q8 := R1.out.keep k2 (fun _ _ h => h)
            obtain ⟨hth1, hth2⟩ := q8.there (k * 2 + 1) (by omega)
            rw [← Nat.add_assoc] at hth1 hth2
            obtain ⟨cv, hcv⟩ := Option.isSome_iff_exists.1 hth1
            have hrc : w2.cell? ⟨r, 1, none⟩ = some (.slice (some ⟨gw, ow, none⟩) n capw) := by
              rw [(K1.out.trans k2 (fun _ h => h.elim)).cell (lt_of_block HR.out.head) (fun h => h)]; exact c1
            have hrf : w2.frozen? ⟨r, 1, none⟩ = false := frozen_of_row _ _ _ _ _ (((K1.out.trans k2 (fun _ h => h.elim)).block r (lt_of_block HR.out.head) (fun h => h)).trans HR.out.head)
            have R9 := Lib.hid r1; have K2 := Lib.hid k2; have G9 := Lib.hid hg9; have Q8 := Lib.hid q8
            have hne8 : ¬ r = g8 := by have := lt_of_block HR.out.head; have := G8.out; omega
            clear r1 r2 r3 k2 hg9 q8 hth1
            have hx := put_found HR.out HND.out hkW key HK.out HS.out (K1.out.trans K2.out (fun _ h => h.elim)) (by rw [← HNW.out]; exact Q8.out) R9.out ⟨G8.out.1, Nat.lt_of_lt_of_le G8.out.2 K2.out.size⟩ ⟨by have := K1.out.size; have := G9.out; omega, G9.out.2⟩ (by have := G8.out; have := G9.out; omega)
            rw [← HNW.out] at hx
            have HX := Lib.hid hx
            clear hx
            go_wp2
            go_ret
            exact HX.out
      · have hne : ((key : Int) == (i : Int)) = false := by simp; omega
        have HE := Lib.hid he
        go_wp2
        go_round
        case rel => exact ⟨k + 1, by omega, by go_num, fun t ht hlt' => by
          rcases Nat.lt_or_ge t k with h1 | h1
          · exact HF.out t ht h1
          · obtain rfl : t = k := by omega
            rw [HK.out]; exact HE.out⟩
        case measure => simp [intOf]; omega
    · obtain rfl : k = n := by omega
      by_cases h40 : k = 40
      · have hge : decide (40 ≤ k) = true := by simp; omega
        have hge2 : (40 : Int) ≤ (k : Int) := by omega
        have h40' := Lib.hid h40
        clear h40
        have hx : PutR N w r vh vs us H W i s (.returned (.bool false)) w := .inl ⟨glook_no (fun t ht => HF.out t ht (by rw [HNW.out]; exact ht)), by rw [← HNW.out]; exact h40'.out, rfl, rfl⟩
        have HX := Lib.hid hx
        clear hx
        go_wp2
        go_ret
        exact HX.out
      · have hge : decide (40 ≤ k) = false := by simp; omega
        have hge2 : (k : Int) < 40 := by omega
        have hrow : Row w 93 2 (.slice aw k capw) k (wcells ks) := by have := HV.out.row; rw [← HNW.out] at this; exact this
        have HROW := Lib.hid hrow
        clear hrow
        go_wp2_with (at_builtin; go_loud (refine wpList_append_row _ rfl (.const (.slice none 0 0)) (.tmp 53) rfl Tryz.underlying62 HJ.out HY0.out HY1.out HY2.out rfl rfl (Row.nil _ _ _) rfl (HROW.out.src Tryz.underlying62 HV.out.one) (by unfold maxLen; omega) (by omega) ?k1))
        case k1 =>
          intro v8 w1 r1 r2 r3 _
          obtain ⟨a8, cap8, rfl, hc8, _⟩ := r1.slice
          have hg8 : ∀ b, (Value.slice a8 k cap8).ownBlock = some b → w.heap.size ≤ b ∧ b < w1.heap.size := fun b hb => by
            rcases r3 b hb with h | h
            · simp [Value.ownBlock] at h
            · exact h
          have k1 : Keep (fun _ => False) w w1 := r2.mono (fun x _ hx => by simp [Value.ownBlock] at hx)
          have R1 := Lib.hid r1; have K1 := Lib.hid k1; have G8 := Lib.hid hg8
          have HB1 := Lib.hid (HB.out.keep k1 (fun _ _ h => h))
          clear r1 r2 r3 k1 hg8
          go_wp2_with (at_builtin; go_loud (refine wpList_append_row _ rfl (.const (.slice none 0 0)) (.tmp 56) rfl Tryz.underlying35 HI.out HZ0.out HZ1.out HZ2.out rfl rfl (Row.nil _ _ _) rfl (HB1.out.src Tryz.underlying35 (byteCells_one s)) (by unfold maxLen; omega) (by omega) ?k2))
          case k2 =>
            intro v36 w2 r1 r2 r3 _
            obtain ⟨g9, o9, cap9, rfl, hc9, _⟩ := r1.full (by omega)
            have hg9 : w1.heap.size ≤ g9 ∧ g9 < w2.heap.size := by
              rcases r3 g9 rfl with h | h
              · simp [Value.ownBlock] at h
              · exact h
            have k2 : Keep (fun _ => False) w1 w2 := r2.mono (fun x _ hx => by simp [Value.ownBlock] at hx)
            have q8 := (R1.out.keep k2 (fun _ _ h => h)).alloc (.cells #[.int .i64 (i : Int), .slice (some ⟨g9, o9, none⟩) 512 cap9] 93)
            have R9 := Lib.hid r1; have K2 := Lib.hid k2; have G9 := Lib.hid hg9; have Q8 := Lib.hid q8
            clear r1 r2 r3 k2 hg9 q8
            go_wp2_with (at_builtin; go_loud (refine wpList_append_row _ rfl (.tmp 54) (.tmp 59) rfl Tryz.underlying62 HJ.out HY0.out HY1.out HY2.out rfl rfl Q8.out rfl (Src.lit Tryz.underlying62 #[.int .i64 (i : Int), .slice (some ⟨g9, o9, none⟩) 512 cap9] _ 1 1 rfl rfl (by simp [Value.oneCell'])) (by unfold maxLen; omega) (by omega) ?k3))
            case k3 =>
              intro v10 w3 r1 r2 r3 _
              obtain ⟨a10, cap10, rfl, hc10, _⟩ := r1.slice
              have k3 : Keep (fun b => (Value.slice a8 k cap8).ownBlock = some b) w2 w3 := (((Keep.refl (fun b => (Value.slice a8 k cap8).ownBlock = some b) w2).alloc _)).trans r2 (fun _ h => .inl h)
              have hr8 : (Value.slice a8 k cap8).ownBlock ≠ some r := fun e => by have := (G8.out r e).1; have := lt_of_block HR.out.head; omega
              have hrh : w3.heap[r]? = some (.cells #[vh, .slice aw k capw, vs] 64 (0, 0)) := by
                rw [k3.block r (Nat.lt_of_lt_of_le (lt_of_block HR.out.head) (Nat.le_trans K1.out.size K2.out.size)) hr8]
                exact ((K1.out.trans K2.out (fun _ h => h.elim)).block r (lt_of_block HR.out.head) (fun h => h)).trans HR.out.head
              have hrc : w3.cell? ⟨r, 1, none⟩ = some (.slice aw k capw) := (cell_of_row _ _ _ _ _ _ hrh).trans rfl
              have hrf : w3.frozen? ⟨r, 1, none⟩ = false := frozen_of_row _ _ _ _ _ hrh
              have R10 := Lib.hid r1; have K3 := Lib.hid k3; have G10 := Lib.hid r3; have HRH := Lib.hid hrh
              clear r1 r2 r3 k3 hrh
              have hx := put_push (i := i) HR.out (fun t ht => HF.out t ht (by rw [HNW.out]; exact ht)) (by rw [← HNW.out]; omega) HS.out (K1.out.trans K2.out (fun _ h => h.elim)) HRH.out K3.out (fun b hb => (G8.out b hb).1) (by rw [← HNW.out]; exact R10.out) (fun b hb => by
                rcases G10.out b hb with h | h
                · exact (G8.out b h).1
                · have h1 := h.1; have := K1.out.size; have := K2.out.size; omega) R9.out (by have := K1.out.size; have := G9.out; omega) (fun e => by have := (G8.out g9 e).2; have := G9.out; omega)
              have HX := Lib.hid hx
              clear hx
              go_wp2
              go_ret
              exact HX.out

end Go.Proofs.YtibmillfankjfaaGreatDoor
