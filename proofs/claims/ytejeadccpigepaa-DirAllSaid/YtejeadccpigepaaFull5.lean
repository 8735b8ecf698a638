/- Files on blocks: a Write of whatever bytes, with room or without; bytes that are filled; bytes as a string. -/
import Derived.Test.YtejeadccpigepaaBegun5
import Derived.ProofKit
namespace Go.Proofs.Ytejeadccpigepaa.Ino
open Go.RowKit Go.Maps Go.Proofs.Ytejeadccpigepaa
set_option maxRecDepth 100000

theorem fl_try {w : World} {F : Nat → Prop} {p s : Nat} {S : Sto} {size : Nat} {T : List Nat} (h : Fl w F p s S size T) (hx : S.nxt + 203 < 100000) (at_ : Nat) {v : Value} {b : List UInt8} {n : Nat} (hn : b.length = n) (hb : Seen w 1 v n (bcells b)) (hl : n ≤ 50000) (ha : at_ + n ≤ 102400) :
    Calls Try.prog 30 #[.pointer (some ⟨p, 0, none⟩), .int .i64 (at_ : Int), v] w fun e w' => ((e = .returned .nilIface ∧ ∃ F' S' T', Fl w' F' p s S' (if n = 0 then size else max size (at_ + n)) T' ∧ S'.most = S.most ∧ S'.nxt ≤ S.nxt + 203 ∧
      (∀ i, i < 102400 → fileB S' T' i = if at_ ≤ i ∧ i < at_ + n then b.getD (i - at_) 0 else fileB S T i) ∧ Keep (fun x => F x ∨ x = p) w w' ∧ ∀ x, F' x → F x ∨ w.heap.size ≤ x) ∨
      ∃ r nx F', e = .returned (.iface 127 (.pointer (some ⟨r, 0, none⟩))) ∧ S.nxt ≤ nx ∧ nx ≤ S.nxt + 203 ∧ Fl w' F' p s { S with nxt := nx } size T ∧ Keep (fun x => F x ∨ x = p) w w' ∧ (∀ x, F' x → F x ∨ w.heap.size ≤ x) ∧ ErrAt w' w.heap.size r) := by
  subst hn
  by_cases h0 : b.length = 0
  · obtain ⟨_, ad, cap, rfl, _, _, _⟩ := hb
    rw [h0]
    refine (write_none h.file at_ ad cap).mono ?_
    rintro e w' ⟨rfl, rfl⟩
    exact .inl ⟨rfl, F, S, T, by rw [if_pos rfl]; exact h, rfl, by omega, fun i hi => by rw [if_neg (by omega)], Keep.refl _ w, fun x hx => .inl hx⟩
  · by_cases hf : fitsW S T at_ b.length
    · refine (fl_write h hx at_ hb hl (by omega) ha hf).mono ?_
      rintro e w' ⟨rfl, F', S', T', h1, h2, h3, h4, h5, h6, h7, _, h8, h9, h10⟩
      exact .inl ⟨rfl, F', S', T', by rw [if_neg h0]; exact h1, h2, h4, h8, h9, h10⟩
    · refine (fl_full h hx at_ hb hl (by omega) ha hf).mono ?_
      rintro e w' ⟨r, nx, F', rfl, h1, h2, h3, h4, h5, h6⟩
      exact .inr ⟨r, nx, F', rfl, h1, h2, h3, h4.mono (fun _ _ h => .inl h), h5, h6⟩

theorem str_row {w : World} {v : Value} {m : Nat} {l : List UInt8} (h : Row w 5 1 v m (bcells l)) (hl : l.length = m) : (convert 71 9 v).run Try.prog w = .ok (.string ⟨l.toArray⟩) w := by
  by_cases hm : m = 0
  · subst hm
    obtain ⟨a, cap, rfl, _, _⟩ := h.slice
    have e : l = [] := List.eq_nil_of_length_eq_zero hl
    subst e
    cases a <;> simp [convert, run_underlying Try.underlying71, run_underlying Try.underlying9, run_underlying Try.underlying5]
    all_goals rfl
  · obtain ⟨g, o, cap, rfl, _, _⟩ := h.full (by omega)
    refine run_string_of_bytes (fun j hj => ?_) 71 9 5 m cap hl Try.underlying71 Try.underlying5 Try.underlying9
    rw [h.cellAt j (by omega)]
    simp [bcells, hj]

/-- While bytes are filled. -/
structure FillR (w3 : World) (v : Value) (g n : Nat) (c : UInt8) (iv : Value) (wr : World) : Prop where
  ex : ∃ k : Nat, k ≤ n ∧ iv = .int .i64 (k : Int) ∧ Row wr 5 1 v n (bcells (List.replicate k c ++ List.replicate (n - k) 0)) ∧ Keep (fun x => x = g) w3 wr

theorem FillR.step {w3 wr : World} {g n cap k : Nat} {c : UInt8} (hk : k < n) (h : Row wr 5 1 (.slice (some ⟨g, 0, none⟩) n cap) n (bcells (List.replicate k c ++ List.replicate (n - k) 0))) (hK : Keep (fun x => x = g) w3 wr) (z : Int) (hz : z = (c.toNat : Int)) :
    FillR w3 (.slice (some ⟨g, 0, none⟩) n cap) g n c (.int .i64 ((k : Int) + 1)) (wr.setCell ⟨g, k, none⟩ (.int .u8 z)) := by
  subst hz
  have hs := h.stored k (.int .u8 (c.toNat : Int))
  rw [Nat.zero_add] at hs
  refine ⟨k + 1, by omega, by go_num, ?_, hK.setCell _ _ (.inl rfl)⟩
  have e : (bcells (List.replicate k c ++ List.replicate (n - k) 0)).set k (.int .u8 (c.toNat : Int)) = bcells (List.replicate (k + 1) c ++ List.replicate (n - (k + 1)) 0) := by
    obtain ⟨m, hm⟩ : ∃ m, n - k = m + 1 := ⟨n - k - 1, by omega⟩
    rw [hm, show n - (k + 1) = m by omega]
    simp only [bcells, List.map_append, List.map_replicate]
    rw [List.set_append_right _ _ (by simp), List.length_replicate, Nat.sub_self, List.replicate_succ, List.set_cons_zero, List.replicate_succ', List.append_assoc]
    rfl
  rw [← e]
  exact hs

end Go.Proofs.Ytejeadccpigepaa.Ino
