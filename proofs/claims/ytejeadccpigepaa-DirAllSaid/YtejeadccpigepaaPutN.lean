/- dirfs: an entry is put, wherever; just when there is no room for it. -/
import Derived.Test.YtejeadccpigepaaPut6
namespace Go.Proofs.Ytejeadccpigepaa.Dir
open Go.RowKit Go.Maps Go.Proofs.Ytejeadccpigepaa Go.Proofs.Ytejeadccpigepaa.Ino
set_option maxRecDepth 100000

/-! ### a table whose first c slots are used -/
def Front (T : List Nat) (c : Nat) : Prop := ∀ j, j < 203 → (tg T j ≠ 0 ↔ j < c)

theorem Front.fresh : Front zero203 0 := fun j _ => by rw [tg_zero203]; simp

theorem Front.cnt {T : List Nat} {c : Nat} (h : Front T c) (n : Nat) (hn : n ≤ 203) : cntB T n = min n c := by
  induction n with
  | zero => simp [cntB]
  | succ n ih =>
    rw [cntB, ih (by omega)]
    have := h n (by omega)
    by_cases hc : n < c
    · rw [if_neg (this.2 hc)]; omega
    · rw [if_pos (by
        by_cases e : tg T n = 0
        · exact e
        · exact absurd (this.1 e) hc)]; omega

theorem grow_front {T : List Nat} {c q nx : Nat} (hT : T.length = 203) (h : Front T c) (hc : c ≤ 8) (hq : q ≤ c) (hq8 : q < 8) :
    Front (growTo q (q + 1) T nx 203).1 (max c (q + 1)) ∧ (growTo q (q + 1) T nx 203).2 = nx + (max c (q + 1) - c) := by
  have hln := growTo_length q (q + 1) T nx 203
  have hlo : ∀ j, j < 200 → (tg (growTo q (q + 1) T nx 203).1 j ≠ 0 ↔ j < max c (q + 1)) := fun j hj => by
    have h1 := growTo_lo q (q + 1) T nx hT hj
    have h2 := h j (by omega)
    by_cases e : j = q
    · exact ⟨fun _ => by omega, fun _ => h1.2 (by omega)⟩
    · rw [h1.1 (by omega), h2]; omega
  have hhi : ∀ k, k = 200 ∨ k = 201 ∨ k = 202 → _ := fun k hk => growTo_hi q (q + 1) T nx hT (k := k) hk
  have hcn := cntB_grow q (q + 1) T nx 203 hT (by omega)
  have h0 := h.cnt 203 (by omega)
  have hz : ∀ k, 200 ≤ k → k < 203 → ¬ tg T k ≠ 0 := fun k h1 h2 h3 => by
    have := (h k h2).1 h3
    omega
  generalize growTo q (q + 1) T nx 203 = G at *
  have h200 : ¬ tg G.1 200 ≠ 0 := by
    rw [hhi 200 (by omega), usedB_iff _ (by omega) (by omega)]
    simp only [namedFrom, namedTo]
    rintro (h | ⟨j, h1, h2, h3⟩)
    · exact hz 200 (by omega) (by omega) h
    · simp at h1 h2
      have := (hlo j (by omega)).1 h3
      omega
  have h201 : ¬ tg G.1 201 ≠ 0 := by
    rw [hhi 201 (by omega), usedB_iff _ (by omega) (by omega)]
    simp only [namedFrom, namedTo]
    rintro (h | ⟨j, h1, h2, h3⟩)
    · exact hz 201 (by omega) (by omega) h
    · simp at h1 h2
      have := (hlo j (by omega)).1 h3
      omega
  have h202 : ¬ tg G.1 202 ≠ 0 := by
    rw [hhi 202 (by omega), usedB_iff _ (by omega) (by omega)]
    simp only [namedFrom, namedTo]
    rintro (h | ⟨j, h1, h2, h3⟩)
    · exact hz 202 (by omega) (by omega) h
    · simp at h1 h2
      first
        | exact h201 (by rw [show j = 201 by omega] at h3; exact h3)
        | (have := (hlo j (by omega)).1 h3; omega)
  have hF : Front G.1 (max c (q + 1)) := fun j hj => by
    by_cases e : j < 200
    · exact hlo j e
    · rcases (by omega : j = 200 ∨ j = 201 ∨ j = 202) with rfl | rfl | rfl
      · exact ⟨fun h => absurd h h200, fun h => by omega⟩
      · exact ⟨fun h => absurd h h201, fun h => by omega⟩
      · exact ⟨fun h => absurd h h202, fun h => by omega⟩
  refine ⟨hF, ?_⟩
  have h1 := hF.cnt 203 (by omega)
  omega

/-- The parts that n entries take. -/
def partsE (n : Nat) : Nat := (32 * n + 511) / 512

/-- A directory that uses its first parts, and no more. -/
structure Dq (w : World) (F : Nat → Prop) (p s : Nat) (S : Sto) (T : List Nat) (E : List Ent) : Prop where
  dr : Dr w F p s S T E
  front : Front T (partsE E.length)
  few : E.length ≤ 112

theorem Dq.keep {G : Nat → Prop} {w w' : World} {F : Nat → Prop} {p s : Nat} {S : Sto} {T : List Nat} {E : List Ent} (h : Dq w F p s S T E) (k : Keep G w w') (hp : ¬ G p) (hG : ∀ x, F x → ¬ G x) : Dq w' F p s S T E := ⟨h.dr.keep k hp hG, h.front, h.few⟩
theorem Dq.keep0 {w w' : World} {F : Nat → Prop} {p s : Nat} {S : Sto} {T : List Nat} {E : List Ent} (h : Dq w F p s S T E) (k : Keep (fun _ => False) w w') : Dq w' F p s S T E := h.keep k (fun h => h) (fun _ _ h => h)
theorem Dq.c {w : World} {F : Nat → Prop} {p s : Nat} {S : Sto} {T : List Nat} {E : List Ent} (h : Dq w F p s S T E) : S.c = partsE E.length := by
  have h1 := h.dr.fl.ok.count
  have h2 := h.front.cnt 203 (by omega)
  have h3 := h.few
  rw [h1, h2]
  unfold partsE at *
  omega

/-- Entries with one put at a slot, or behind the last. -/
def putE (E : List Ent) (i : Nat) (e : Ent) : List Ent := if i < E.length then E.set i e else E ++ [e]

theorem putE_length {E : List Ent} {i : Nat} (e : Ent) : (putE E i e).length = if i < E.length then E.length else E.length + 1 := by
  unfold putE; split <;> simp

theorem putE_get {E : List Ent} {i : Nat} (e : Ent) (hi : i ≤ E.length) (j : Nat) (hj : j < (putE E i e).length) : (putE E i e)[j]? = if j = i then some e else E[j]? := by
  rw [putE_length] at hj
  unfold putE
  by_cases h : i < E.length
  · rw [if_pos h] at hj ⊢
    rw [List.getElem?_set]
    by_cases e1 : j = i
    · rw [if_pos e1.symm, if_pos e1, if_pos (by omega)]
    · rw [if_neg (fun x => e1 x.symm), if_neg e1]
  · rw [if_neg h] at hj ⊢
    rw [List.getElem?_append]
    by_cases e1 : j = i
    · rw [if_pos e1, if_neg (by omega), show j - E.length = 0 by omega]; rfl
    · rw [if_neg e1, if_pos (by omega)]

theorem putE_ok {E : List Ent} {i : Nat} {e : Ent} (h : ∀ x ∈ E, okE x) (he : okE e) : ∀ x ∈ putE E i e, okE x := by
  intro x hx
  unfold putE at hx
  split at hx
  · rcases List.mem_or_eq_of_mem_set hx with h1 | h1
    · exact h x h1
    · rw [h1]; exact he
  · rcases List.mem_append.1 hx with h1 | h1
    · exact h x h1
    · rw [List.mem_singleton.1 h1]; exact he

theorem flatE_get {E : List Ent} (h : ∀ e ∈ E, okE e) (k r : Nat) (hr : r < 32) (hk : k < E.length) : (flatE E)[32 * k + r]? = (packL E[k])[r]? := by
  have h1 := flatE_slot h k hk
  rw [← h1, List.getElem?_take, if_pos hr, List.getElem?_drop]
  congr 1; omega

/-- The bytes behind a put. -/
theorem flatE_put {S S' : Sto} {T T' : List Nat} {E : List Ent} {i : Nat} {e : Ent} (hok : ∀ x ∈ E, okE x) (he : okE e) (hi : i ≤ E.length) (hlen : (putE E i e).length ≤ 3200) (hb : fileL S T 0 (32 * E.length) = flatE E)
    (hw : ∀ j, j < 102400 → fileB S' T' j = if i * 32 ≤ j ∧ j < i * 32 + 32 then (packL e).getD (j - i * 32) 0 else fileB S T j) :
    fileL S' T' 0 (32 * (putE E i e).length) = flatE (putE E i e) := by
  have hok2 := putE_ok (i := i) hok he
  apply List.ext_getElem?
  intro j
  by_cases hj : j < 32 * (putE E i e).length
  · have hl : (fileL S' T' 0 (32 * (putE E i e).length))[j]? = some (fileB S' T' j) := by simp [fileL, hj]
    obtain ⟨k, r, hr, rfl⟩ : ∃ k r, r < 32 ∧ j = 32 * k + r := ⟨j / 32, j % 32, by omega, by omega⟩
    have hk : k < (putE E i e).length := by omega
    have hg := putE_get e hi k hk
    rw [hl, hw _ (by omega), flatE_get hok2 k r hr hk]
    rw [List.getElem?_eq_getElem hk] at hg
    by_cases hki : k = i
    · rw [if_pos hki] at hg
      rw [Option.some.inj hg, if_pos (by omega), List.getD_eq_getElem?_getD, show 32 * k + r - i * 32 = r by omega, List.getElem?_eq_getElem (by rw [packL_length he.len.1]; exact hr)]
      rfl
    · have hkE : k < E.length := by
        rw [putE_length] at hk
        split at hk <;> omega
      rw [if_neg hki, List.getElem?_eq_getElem hkE] at hg
      rw [Option.some.inj hg, if_neg (by omega)]
      have h3 := flatE_get hok k r hr hkE
      rw [← hb] at h3
      rw [← h3]
      have h4 : (fileL S T 0 (32 * E.length))[32 * k + r]? = some (fileB S T (32 * k + r)) := by simp [fileL, show 32 * k + r < 32 * E.length by omega]
      exact h4.symm
  · rw [List.getElem?_eq_none (by rw [fileL_length]; omega), List.getElem?_eq_none (by rw [flatE_length hok2]; omega)]

/-- What put answers. -/
structure PutA (w : World) (F : Nat → Prop) (p s : Nat) (S : Sto) (T : List Nat) (E : List Ent) (i : Nat) (e : Ent) (x : Ending) (w' : World) : Prop where
  ex : (partsE (putE E i e).length ≤ S.most ∧ x = .returned .nilIface ∧ ∃ F' S' T', Dq w' F' p s S' T' (putE E i e) ∧ S'.most = S.most ∧ S'.nxt ≤ S.nxt + 203 ∧ ∀ y, F' y → F y ∨ w.heap.size ≤ y) ∨
    (S.most < partsE (putE E i e).length ∧ ∃ r nx F', x = .returned (.iface 127 (.pointer (some ⟨r, 0, none⟩))) ∧ nx ≤ S.nxt + 203 ∧ Dq w' F' p s { S with nxt := nx } T E ∧ (∀ y, F' y → F y ∨ w.heap.size ≤ y) ∧ ErrAt w' w.heap.size r)
  keep : Keep (fun y => F y ∨ y = p) w w'

theorem put_any {w : World} {F : Nat → Prop} {p s : Nat} {S : Sto} {T : List Nat} {E : List Ent} (h : Dq w F p s S T E) (hx : S.nxt + 203 < 100000) (i : Nat) (hi : i ≤ E.length) (e : Ent) (he : okE e) (hfew : (putE E i e).length ≤ 112) :
    Calls Try.prog 19 #[.pointer (some ⟨p, 0, none⟩), .int .i64 (i : Int), .agg #[.string ⟨e.1.toArray⟩, .int .i64 (e.2 : Int)]] w (PutA w F p s S T E i e) := by
  have hl := packL_length he.len.1
  have hE := h.few
  have hpl := putE_length (E := E) (i := i) e
  have hq : (i * 32) / 512 = i / 16 := by omega
  have hn : (i * 32 + (packL e).length + 511) / 512 = i / 16 + 1 := by rw [hl]; omega
  have hc := h.c
  have hmx : max (partsE E.length) (i / 16 + 1) = partsE (putE E i e).length := by
    rw [hpl]; unfold partsE; split <;> omega
  have hgf := grow_front (q := i / 16) (nx := S.nxt) h.dr.fl.ok.len h.front (by unfold partsE; omega) (by unfold partsE; omega) (by
    rw [hpl] at hfew; split at hfew <;> omega)
  rw [hmx] at hgf
  have hle : partsE E.length ≤ partsE (putE E i e).length := by omega
  have hsz : max (32 * E.length) (i * 32 + 32) = 32 * (putE E i e).length := by
    rw [hpl]; split <;> omega
  have hfit : fitsW S T (i * 32) (packL e).length ↔ partsE (putE E i e).length ≤ S.most := by
    unfold fitsW
    rw [hq, hn, hgf.2, hc]
    omega
  refine (put_of (PW := fun w2 x w' => PutA w2 F p s S T E i e x w') e he i (i * 32) (by omega) rfl (fun w2 v k2 hv => ?_)).mono ?_
  · have hv' : Seen w2 1 v (packL e).length (bcells (packL e)) := by rw [hl]; exact hv
    have hD := h.keep0 k2
    by_cases hf : fitsW S T (i * 32) (packL e).length
    · refine (fl_write hD.dr.fl hx (i * 32) hv' (by omega) (by omega) (by omega) hf).mono ?_
      rintro x w' ⟨rfl, F', S', T', h1, h2, _, h4, _, _, h7, _, h8, h9, h10⟩
      rw [hq, hn] at h7
      rw [hl] at h1 h8
      rw [hsz] at h1
      have hbytes := flatE_put h.dr.ok he hi (by omega) h.dr.bytes h8
      exact ⟨_, rfl, .inl ⟨hfit.1 hf, rfl, F', S', T', ⟨⟨h1, putE_ok h.dr.ok he, hbytes⟩, by rw [h7]; exact hgf.1, hfew⟩, h2, h4, h10⟩, h9⟩
    · refine (fl_full hD.dr.fl hx (i * 32) hv' (by omega) (by omega) (by omega) hf).mono ?_
      rintro x w' ⟨r, nx, F', rfl, _, h2, h3, h4, h5, h6⟩
      refine ⟨_, rfl, .inr ⟨?_, r, nx, F', rfl, h2, ⟨⟨h3, h.dr.ok, h.dr.bytes⟩, h.front, h.few⟩, h5, h6⟩, h4.mono (fun _ _ h => .inl h)⟩
      have := mt hfit.2 hf
      omega
  · rintro x w' ⟨w2, k2, hx2⟩
    have hs := k2.size
    refine ⟨?_, (k2.mono (fun _ _ h => h.elim)).trans hx2.keep (fun y hy => .inl hy)⟩
    rcases hx2.ex with ⟨a, b, F', S', T', c, d, d2, f⟩ | ⟨a, r, nx, F', b, c, d, f, g⟩
    · exact .inl ⟨a, b, F', S', T', c, d, d2, fun y hy => (f y hy).imp id (fun hh => Nat.le_trans hs hh)⟩
    · exact .inr ⟨a, r, nx, F', b, c, d, fun y hy => (f y hy).imp id (fun hh => Nat.le_trans hs hh), g.low hs⟩

end Go.Proofs.Ytejeadccpigepaa.Dir
/- dirfs: Find, Remove, Add where they answer an error. -/
namespace Go.Proofs.Ytejeadccpigepaa.Dir
open Go.RowKit Go.Maps Go.Proofs.Ytejeadccpigepaa Go.Proofs.Ytejeadccpigepaa.Ino
set_option maxRecDepth 100000

theorem find_may {w : World} (p : Nat) (nm : ByteArray) (hm : mayB nm.data.toList = false) : Calls Try.prog 11 #[.pointer (some ⟨p, 0, none⟩), .string nm] w fun e w' => e = .returned (.tuple #[.int .i64 0, apiErr 5]) ∧ w = w' := by
  have HS := Lib.hid (seek_may (w := w) p nm hm)
  clear hm
  go_enter Try.func11, Try.ntmps11
  go_wp2_with (go_at_call 21; (with_reducible refine HS.out.mono ?_); rintro e w' ⟨rfl, rfl⟩)
  go_ret2
  exact ⟨rfl, rfl⟩

theorem find_none {w : World} {F : Nat → Prop} {p s : Nat} {S : Sto} {T : List Nat} {E : List Ent} (h : Dr w F p s S T E) (nm : ByteArray) (hm : mayB nm.data.toList = true) (hp : plc E nm.data.toList = none) : Calls Try.prog 11 #[.pointer (some ⟨p, 0, none⟩), .string nm] w fun e w' => e = .returned (.tuple #[.int .i64 0, apiErr 6]) ∧ Keep (fun _ => False) w w' := by
  have HS := Lib.hid (seek_none h nm hm hp)
  clear h hm hp
  go_enter Try.func11, Try.ntmps11
  go_wp2_with (go_at_call 21; (with_reducible refine HS.out.mono ?_); rintro e w1 ⟨rfl, k1⟩; have K1 := Lib.hid k1; clear k1)
  go_ret2
  exact ⟨rfl, K1.out⟩

theorem remove_may {w : World} (p : Nat) (nm : ByteArray) (hm : mayB nm.data.toList = false) : Calls Try.prog 10 #[.pointer (some ⟨p, 0, none⟩), .string nm] w fun e w' => e = .returned (apiErr 5) ∧ w = w' := by
  have HS := Lib.hid (seek_may (w := w) p nm hm)
  clear hm
  go_enter Try.func10, Try.ntmps10
  go_wp2_with (go_at_call 21; (with_reducible refine HS.out.mono ?_); rintro e w' ⟨rfl, rfl⟩)
  go_ret
  exact ⟨rfl, rfl⟩

theorem remove_none {w : World} {F : Nat → Prop} {p s : Nat} {S : Sto} {T : List Nat} {E : List Ent} (h : Dr w F p s S T E) (nm : ByteArray) (hm : mayB nm.data.toList = true) (hp : plc E nm.data.toList = none) : Calls Try.prog 10 #[.pointer (some ⟨p, 0, none⟩), .string nm] w fun e w' => e = .returned (apiErr 6) ∧ Keep (fun _ => False) w w' := by
  have HS := Lib.hid (seek_none h nm hm hp)
  clear h hm hp
  go_enter Try.func10, Try.ntmps10
  go_wp2_with (go_at_call 21; (with_reducible refine HS.out.mono ?_); rintro e w1 ⟨rfl, k1⟩; have K1 := Lib.hid k1; clear k1)
  go_ret
  exact ⟨rfl, K1.out⟩

/-- Remove, of a name that is there: an empty entry is put. -/
theorem remove_of {w : World} {F : Nat → Prop} {p s : Nat} {S : Sto} {T : List Nat} {E : List Ent} (h : Dr w F p s S T E) (nm : ByteArray) (hm : mayB nm.data.toList = true) {k : Nat} (hp : plc E nm.data.toList = some k) {Q : World → Ending → World → Prop}
    (hP : ∀ w2, Keep (fun _ => False) w w2 → Calls Try.prog 19 #[.pointer (some ⟨p, 0, none⟩), .int .i64 (k : Int), .agg #[.string ⟨#[]⟩, .int .i64 0]] w2 (fun x w' => ∃ v, x = .returned v ∧ Q w2 x w')) :
    Calls Try.prog 10 #[.pointer (some ⟨p, 0, none⟩), .string nm] w (PutX Q w) := by
  have HS := Lib.hid (seek_some h nm hm hp)
  have HP := Lib.hid hP
  clear h hm hp hP
  go_enter Try.func10, Try.ntmps10
  go_wp2_with (go_at_call 21; (with_reducible refine HS.out.mono ?_); rintro e w1 ⟨v, rfl, _, k1⟩; have K1 := Lib.hid k1; clear k1)
  with_reducible refine (HP.out w1 K1.out).mono ?_
  rintro e w2 ⟨v2, rfl, hq⟩
  have HQ := Lib.hid hq
  clear hq
  go_wp2_with fail
  go_ret
  exact ⟨w1, K1.out, HQ.out⟩

theorem add_may {w : World} (p : Nat) (nm : ByteArray) (k : Int) (hm : mayB nm.data.toList = false) : Calls Try.prog 8 #[.pointer (some ⟨p, 0, none⟩), .string nm, .int .i64 k] w fun e w' => e = .returned (apiErr 5) ∧ w = w' := by
  have HM := Lib.hid (fun w : World => may_any nm (w := w))
  rw [hm] at HM
  clear hm
  go_enter Try.func8, Try.ntmps8
  go_wp2_with (go_at_call 15; (with_reducible refine (HM.out _).mono ?_); rintro e w' ⟨rfl, rfl⟩)
  go_ret
  exact ⟨rfl, rfl⟩

theorem add_range {w : World} (p : Nat) (nm : ByteArray) (k : Int) (hm : mayB nm.data.toList = true) (hk : ¬ (0 < k ∧ k < 32)) : Calls Try.prog 8 #[.pointer (some ⟨p, 0, none⟩), .string nm, .int .i64 k] w fun e w' => e = .returned (apiErr 1) ∧ w = w' := by
  have HM := Lib.hid (fun w : World => may_any nm (w := w))
  rw [hm] at HM
  have HMB := Lib.hid (fun w : World => mayBe_any k (w := w))
  rw [decide_eq_false hk] at HMB
  clear hm hk
  go_enter Try.func8, Try.ntmps8
  go_wp2_with (first | (go_at_call 15; (with_reducible refine (HM.out _).mono ?_); rintro e w' ⟨rfl, rfl⟩) | (go_at_call 16; (with_reducible refine (HMB.out _).mono ?_); rintro e w' ⟨rfl, rfl⟩))
  go_ret
  exact ⟨rfl, rfl⟩

theorem add_exists {w : World} {F : Nat → Prop} {p s : Nat} {S : Sto} {T : List Nat} {E : List Ent} (h : Dr w F p s S T E) (nm : ByteArray) (k : Int) (hm : mayB nm.data.toList = true) (hk : 0 < k ∧ k < 32) {q : Nat} (hq : plc E nm.data.toList = some q) : Calls Try.prog 8 #[.pointer (some ⟨p, 0, none⟩), .string nm, .int .i64 k] w fun e w' => e = .returned (apiErr 7) ∧ Keep (fun _ => False) w w' := by
  have HM := Lib.hid (fun w : World => may_any nm (w := w))
  rw [hm] at HM
  have HMB := Lib.hid (fun w : World => mayBe_any k (w := w))
  rw [decide_eq_true hk] at HMB
  have HS := Lib.hid (slots_any h)
  have HE : Hid (E.length ≤ 3200) := Lib.hid (by have := h.fl.top; omega)
  have HQ := Lib.hid hq
  clear hm hk h hq
  go_enter Try.func8, Try.ntmps8
  go_wp2_with (first | (go_at_call 15; (with_reducible refine (HM.out _).mono ?_); rintro e w' ⟨rfl, rfl⟩) | (go_at_call 16; (with_reducible refine (HMB.out _).mono ?_); rintro e w' ⟨rfl, rfl⟩) | (go_at_call 17; (with_reducible refine HS.out.mono ?_); rintro e w1 ⟨v, rfl, hr, k1, _⟩; have K1 := Lib.hid k1; have HPL := Lib.hid (place_any hr HE.out nm); rw [HQ.out] at HPL; clear k1 hr) | (go_at_call 18; (with_reducible refine HPL.out.mono ?_); rintro e w2 ⟨rfl, k2⟩; have K2 := Lib.hid (K1.out.trans k2 (fun _ h => h.elim)); clear k2; simp only [plcI]))
  go_ret
  exact ⟨rfl, K2.out⟩

/-- Where a new name goes. -/
def slotOf (E : List Ent) : Nat := match plc E [] with
  | some k => k
  | none => E.length

/-- Add, of a name that is not there: an entry is put into the first free slot, or behind all. -/
theorem add_of {w : World} {F : Nat → Prop} {p s : Nat} {S : Sto} {T : List Nat} {E : List Ent} (h : Dr w F p s S T E) (nm : ByteArray) (k : Int) (hm : mayB nm.data.toList = true) (hk : 0 < k ∧ k < 32) (hq : plc E nm.data.toList = none) {Q : World → Ending → World → Prop}
    (hP : ∀ w2, Keep (fun _ => False) w w2 → Calls Try.prog 19 #[.pointer (some ⟨p, 0, none⟩), .int .i64 (slotOf E : Int), .agg #[.string nm, .int .i64 k]] w2 (fun x w' => ∃ v, x = .returned v ∧ Q w2 x w')) :
    Calls Try.prog 8 #[.pointer (some ⟨p, 0, none⟩), .string nm, .int .i64 k] w (PutX Q w) := by
  have HM := Lib.hid (fun w : World => may_any nm (w := w))
  rw [hm] at HM
  have HMB := Lib.hid (fun w : World => mayBe_any k (w := w))
  rw [decide_eq_true hk] at HMB
  have HS := Lib.hid (slots_any h)
  have HE : Hid (E.length ≤ 3200) := Lib.hid (by have := h.fl.top; omega)
  have HP := Lib.hid hP
  have HQ := Lib.hid hq
  obtain ⟨n, hn⟩ : ∃ n, n = E.length := ⟨_, rfl⟩
  have hn1 : n ≤ 3200 := by rw [hn]; exact HE.out
  have HN := Lib.hid hn
  clear hm hk h hq hP hn
  go_enter Try.func8, Try.ntmps8
  go_wp2_with (first | (go_at_call 15; (with_reducible refine (HM.out _).mono ?_); rintro e w' ⟨rfl, rfl⟩) | (go_at_call 16; (with_reducible refine (HMB.out _).mono ?_); rintro e w' ⟨rfl, rfl⟩) | (go_at_call 17; (with_reducible refine HS.out.mono ?_); rintro e w1 ⟨v, rfl, hr, k1, _⟩; have K1 := Lib.hid k1; have HPL : Hid (∀ w2, Keep (fun _ => False) w1 w2 → ∀ nm : ByteArray, Calls Try.prog 18 #[v, .string nm] w2 fun e w' => e = .returned (.int .i64 (plcI (plc E nm.data.toList))) ∧ Keep (fun _ => False) w2 w') := Lib.hid (fun w2 k2 nm => place_any (hr.keep k2 (fun _ _ h => h)) HE.out nm); rw [← HN.out] at hr; obtain ⟨va, vc, rfl, _, _⟩ := hr.slice; clear k1 hr))
  refine (HPL.out w1 (Keep.refl _ _) nm).mono ?_
  rintro e w2 ⟨rfl, k2⟩
  have KK := Lib.hid k2
  have K2 := Lib.hid (K1.out.trans k2 (fun _ h => h.elim))
  rw [HQ.out]
  simp only [plcI]
  clear k2
  go_wp2_with fail
  refine (HPL.out w2 KK.out _).mono ?_
  rintro e w3 ⟨rfl, k3⟩
  have K3 := Lib.hid (K2.out.trans k3 (fun _ h => h.elim))
  clear k3
  have e0 : (⟨#[]⟩ : ByteArray).data.toList = [] := rfl
  rw [e0]
  cases hf : plc E [] with
  | some q =>
    have hs : slotOf E = q := by unfold slotOf; rw [hf]
    rw [hs] at HP
    simp only [plcI]
    clear hf hs e0
    go_wp2_with fail
    refine (HP.out w3 K3.out).mono ?_
    rintro e w4 ⟨v4, rfl, hq4⟩
    have HQ4 := Lib.hid hq4
    clear hq4
    go_wp2_with fail
    go_ret
    exact ⟨w3, K3.out, HQ4.out⟩
  | none =>
    have hs : slotOf E = n := by unfold slotOf; rw [hf]; exact HN.out.symm
    rw [hs] at HP
    simp only [plcI]
    clear hf hs e0
    go_wp2_with fail
    refine (HP.out w3 K3.out).mono ?_
    rintro e w4 ⟨v4, rfl, hq4⟩
    have HQ4 := Lib.hid hq4
    clear hq4
    go_wp2_with fail
    go_ret
    exact ⟨w3, K3.out, HQ4.out⟩

end Go.Proofs.Ytejeadccpigepaa.Dir
