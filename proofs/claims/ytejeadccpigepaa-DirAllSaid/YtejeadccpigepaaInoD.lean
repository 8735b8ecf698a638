/- Files on blocks: take. -/
import Derived.Test.YtejeadccpigepaaInoC
namespace Go.Proofs.Ytejeadccpigepaa.Ino
open Go.RowKit Go.Maps Go.Proofs.Ytejeadccpigepaa
set_option maxRecDepth 100000

theorem tabL_length (T : List Nat) : (tabL T).length = T.length := by simp [tabL]
theorem tabL_get (T : List Nat) (k : Nat) (h : k < T.length) : (tabL T)[k]? = some (.int .u32 ((T[k] : Nat) : Int)) := by simp [tabL, h]

/-- A number that is not there. -/
theorem index_no {w : World} {g : Nat} {T : List Nat} {n v : Nat} (hn : T.length = n) (hc : w.rangeAt g 0 (tabL T)) (hm : n ≤ 1000) (hv : ∀ x ∈ T, x ≠ v) (c : Nat) :
    Calls Try.prog 77 #[.slice (some ⟨g, 0, none⟩) n c, .int .u32 (v : Int)] w fun e w' => e = .returned (.int .i64 (-1)) ∧ w = w' := by
  have HC := Lib.hid hc; have HV := Lib.hid hv
  clear hc hv
  go_enter Try.func77, Try.ntmps77
  go_wp2
  go_loop [8] (fun i => ∃ k : Nat, k ≤ n ∧ i = .int .i64 (k : Int)) (fun i => n - (intOf i).toNat)
  case atStart => exact ⟨0, by omega, rfl⟩
  case round =>
    obtain ⟨k, hk, rfl⟩ := hrel
    by_cases hlt : k < n
    · have hkT : k < T.length := by omega
      have c1 : w.cell? ⟨g, 0 + k, none⟩ = some (.int .u32 ((T[k] : Nat) : Int)) := HC.out k _ (tabL_get T k hkT)
      rw [Nat.zero_add] at c1
      have hne : ¬ ((v : Int) = ((T[k] : Nat) : Int)) := fun e => HV.out _ (List.getElem_mem hkT) (by omega)
      generalize T[k] = x at *
      go_wp2
      go_round
      case rel => exact ⟨k + 1, by omega, by go_num⟩
      case measure => simp [intOf]; omega
    · obtain rfl : k = n := by omega
      go_wp2
      go_ret
      exact ⟨rfl, rfl⟩

theorem contains_no {w : World} {g : Nat} {T : List Nat} {n v : Nat} (hn : T.length = n) (hc : w.rangeAt g 0 (tabL T)) (hm : n ≤ 1000) (hv : ∀ x ∈ T, x ≠ v) (c : Nat) :
    Calls Try.prog 67 #[.slice (some ⟨g, 0, none⟩) n c, .int .u32 (v : Int)] w fun e w' => e = .returned (.bool false) ∧ w = w' := by
  have HC := Lib.hid (index_no hn hc hm hv c)
  clear hc hv
  go_enter Try.func67, Try.ntmps67
  go_wp2_with (go_at_call 77; refine HC.out.mono ?_; rintro e w' ⟨rfl, rfl⟩)
  go_ret
  exact ⟨rfl, rfl⟩

theorem Try.slTab (g : Nat) (w : World) : (Instr.sliceAt 56 (.pointer (some ⟨g, 0, none⟩)) none none none).run Try.prog w = .ok (.slice (some ⟨g, 0, none⟩) 203 203) w := by kernel_rfl

set_option maxHeartbeats 1000000 in
theorem takeC_any {w : World} {F : Nat → Prop} {p s : Nat} {S : Sto} {size : Nat} {T : List Nat} (h : IsFile w F p s S size T) (hf : S.c < S.most) (hx : S.nxt + 1 < 100000) {bf bt bn tb : Nat} {T' : List Nat} (hT' : ∀ x ∈ T', x ≤ S.nxt) (hl' : T'.length = 203)
    (h1 : w.heap[bf]? = some (.cells #[.pointer (some ⟨p, 0, none⟩)] 28 (0, 0))) (h2 : w.heap[bt]? = some (.cells #[.pointer (some ⟨tb, 0, none⟩)] 119 (0, 0))) (h3 : w.heap[bn]? = some (.cells #[.int .u32 0] 54 (0, 0))) (h4 : w.heap[tb]? = some (.cells (tabL T').toArray 56 (0, 0)))
    (hF : ¬ F bf ∧ ¬ F bt ∧ ¬ F bn ∧ ¬ F tb) :
    Calls Try.prog 66 #[.pointer (some ⟨bf, 0, none⟩), .pointer (some ⟨bt, 0, none⟩), .pointer (some ⟨bn, 0, none⟩)] w fun e w' => e = .returned .nilIface ∧ (∃ l, l.length = 512 ∧ IsFile w' (grow F w w') p s { S with f := S.set (S.nxt + 1) (some l), c := S.c + 1, nxt := S.nxt + 1 } size T) ∧ Keep (fun x => F x ∨ x = bn) w w' ∧ w'.heap[bn]? = some (.cells #[.int .u32 ((S.nxt + 1 : Nat) : Int)] 54 (0, 0)) := by
  obtain ⟨b, D, hs⟩ := h.sto
  have c0 := h.cell 0
  simp only [List.getElem?_cons_zero] at c0
  have d1 : w.cell? ⟨bf, 0, none⟩ = some (.pointer (some ⟨p, 0, none⟩)) := (cell_of_row _ _ _ _ _ _ h1).trans rfl
  have HF := Lib.hid h
  have HS := Lib.hid hs
  have H2 := Lib.hid h2; have H3 := Lib.hid h3; have H4 := Lib.hid h4; have HT := Lib.hid hT'
  have hmth := Try.mTake
  clear h hs h1 h2 h3 h4 hT'
  go_enter Try.func66, Try.ntmps66
  go_wp2_with fail
  refine (stake_any HS.out hf hx).mono ?_
  rintro e w1 ⟨rfl, ⟨D', l, hl, hs1⟩, k1⟩
  have HS1 := Lib.hid (HF.out.turned ⟨D', hs1⟩ k1)
  have K1 := Lib.hid k1
  have b2 := (k1.block bt (lt_of_block H2.out) hF.2.1).trans H2.out
  have b3 := (k1.block bn (lt_of_block H3.out) hF.2.2.1).trans H3.out
  have b4 := (k1.block tb (lt_of_block H4.out) hF.2.2.2).trans H4.out
  have e2 : w1.cell? ⟨bt, 0, none⟩ = some (.pointer (some ⟨tb, 0, none⟩)) := (cell_of_row _ _ _ _ _ _ b2).trans rfl
  have e3 : w1.cell? ⟨bn, 0, none⟩ = some (.int .u32 0) := (cell_of_row _ _ _ _ _ _ b3).trans rfl
  have g3 : w1.frozen? ⟨bn, 0, none⟩ = false := frozen_of_row _ _ _ _ _ b3
  have hrg : w1.rangeAt tb 0 (tabL T') := fun j v hv => by
    rw [cell_of_row _ _ _ _ _ _ b4]; simpa using hv
  have HCN : Hid (Calls Try.prog 67 #[.slice (some ⟨tb, 0, none⟩) 203 203, .int .u32 ((S.nxt + 1 : Nat) : Int)] w1 fun e w' => e = .returned (.bool false) ∧ w1 = w') := Lib.hid (contains_no hl' hrg (by omega) (fun x hx e => by have := HT.out x hx; omega) 203)
  have B3 := Lib.hid b3
  have hst := Try.slTab tb
  clear hs1 k1 b2 b3 b4 hrg
  obtain ⟨v, hv⟩ : ∃ v, v = S.nxt + 1 := ⟨_, rfl⟩
  have HVV := Lib.hid hv
  rw [← hv] at HCN HS1 ⊢
  have hv0 : 0 < v := by omega
  have hv1 : v < 100000 := by omega
  clear hv
  have hwu : IntKind.u32.wrap (v : Int) = (v : Int) := by rw [IntKind.wrap_u32]; omega
  have t1 : decide ((4294967295 : Int) < (v : Int)) = false := by rw [decide_eq_false_iff_not]; omega
  have t2 : decide ((v : Int) < 1) = false := by rw [decide_eq_false_iff_not]; omega
  go_wp2_with (go_at_call 67; refine HCN.out.mono ?_; rintro e w' ⟨rfl, rfl⟩)
  have k9 : Keep (fun x => x = bn) w1 (w1.setCell ⟨bn, 0, none⟩ (.int .u32 (v : Int))) := (Keep.refl (fun x => x = bn) w1).setCell _ _ (.inl rfl)
  have hbn := lt_of_block H3.out
  have hF9 := HS1.out.keep k9 (fun e => by
    have h1 := HF.out.head
    have h2 := H3.out
    have e' : p = bn := e
    rw [e', h2] at h1
    simp only [Option.some.injEq, Obj.cells.injEq] at h1
    exact absurd h1.2.1 (by decide)) (fun x hx e => by
    rcases hx with hx | hx
    · exact hF.2.2.1 (e ▸ hx)
    · omega)
  have hB9 := heap_setCell_at (i := 0) (.int .u32 (v : Int)) B3.out
  go_ret
  have hgr : grow F w (w1.setCell ⟨bn, 0, none⟩ (.int .u32 (v : Int))) = grow F w w1 := by unfold grow; simp
  rw [← HVV.out]
  refine ⟨rfl, ⟨l, hl, by rw [hgr]; exact hF9⟩, (K1.out.mono (fun _ _ h => .inl h)).trans k9 (fun x h => .inl (.inr h)), hB9⟩

set_option maxHeartbeats 1000000 in
theorem takeC_full {w : World} {F : Nat → Prop} {p s : Nat} {S : Sto} {size : Nat} {T : List Nat} (h : IsFile w F p s S size T) (hf : S.most ≤ S.c) {bf : Nat} (v1 v2 : Value)
    (h1 : w.heap[bf]? = some (.cells #[.pointer (some ⟨p, 0, none⟩)] 28 (0, 0))) :
    Calls Try.prog 66 #[.pointer (some ⟨bf, 0, none⟩), v1, v2] w fun e w' => e = .returned (apiE 2) ∧ Keep (fun _ => False) w w' := by
  obtain ⟨b, D, hs⟩ := h.sto
  have c0 := h.cell 0
  simp only [List.getElem?_cons_zero] at c0
  have d1 : w.cell? ⟨bf, 0, none⟩ = some (.pointer (some ⟨p, 0, none⟩)) := (cell_of_row _ _ _ _ _ _ h1).trans rfl
  have HS := Lib.hid hs
  have hmth := Try.mTake
  clear h hs h1
  go_enter Try.func66, Try.ntmps66
  go_wp2_with fail
  refine (stake_full HS.out hf).mono ?_
  rintro e w1 ⟨rfl, nn, rfl⟩
  have HK : Hid (Keep (fun _ => False) w (w.drewN nn)) := Lib.hid ⟨rfl, rfl, rfl, Nat.le_refl _, fun _ _ _ => rfl⟩
  generalize w.drewN nn = w1 at *
  go_wp2
  go_ret
  exact ⟨rfl, HK.out⟩

/-- The world in which take asks. -/
def takW (w : World) (p tb : Nat) : World := ((w.alloc (.cells #[.pointer (some ⟨p, 0, none⟩)] 28)).alloc (.cells #[.pointer (some ⟨tb, 0, none⟩)] 119)).alloc (.cells #[.int .u32 0] 54)

theorem takW_at (w : World) (p tb : Nat) : Keep (fun _ => False) w (takW w p tb) ∧ (takW w p tb).heap.size = w.heap.size + 3 ∧ (takW w p tb).heap[w.heap.size]? = some (.cells #[.pointer (some ⟨p, 0, none⟩)] 28 (0, 0)) ∧
    (takW w p tb).heap[w.heap.size + 1]? = some (.cells #[.pointer (some ⟨tb, 0, none⟩)] 119 (0, 0)) ∧ (takW w p tb).heap[w.heap.size + 2]? = some (.cells #[.int .u32 0] 54 (0, 0)) := by
  refine ⟨(((Keep.refl _ w).alloc _).alloc _).alloc _, by simp [takW], heap_past (heap_past (heap_alloc_new w _)), heap_past ?_, ?_⟩
  · have := heap_alloc_new (w.alloc (.cells #[.pointer (some ⟨p, 0, none⟩)] 28)) (.cells #[.pointer (some ⟨tb, 0, none⟩)] 119)
    simp only [World.size_alloc] at this
    exact this
  · have := heap_alloc_new ((w.alloc (.cells #[.pointer (some ⟨p, 0, none⟩)] 28)).alloc (.cells #[.pointer (some ⟨tb, 0, none⟩)] 119)) (.cells #[.int .u32 0] 54)
    simp only [World.size_alloc] at this
    exact this

set_option maxHeartbeats 1000000 in
theorem take_any {w : World} {F : Nat → Prop} {p s : Nat} {S : Sto} {size : Nat} {T : List Nat} (h : IsFile w F p s S size T) (hf : S.c < S.most) (hx : S.nxt + 1 < 100000) {tb : Nat} {T' : List Nat} (hT' : ∀ x ∈ T', x ≤ S.nxt) (hl' : T'.length = 203)
    (h4 : w.heap[tb]? = some (.cells (tabL T').toArray 56 (0, 0))) (hF : ¬ F tb) :
    Calls Try.prog 52 #[.pointer (some ⟨p, 0, none⟩), .pointer (some ⟨tb, 0, none⟩)] w fun e w' => e = .returned (.tuple #[.int .u32 ((S.nxt + 1 : Nat) : Int), .nilIface]) ∧ (∃ l, l.length = 512 ∧ IsFile w' (grow F w w') p s { S with f := S.set (S.nxt + 1) (some l), c := S.c + 1, nxt := S.nxt + 1 } size T) ∧ Keep F w w' := by
  have hmf : ∀ (fn : Fn) (first cap : Array Value) (w : World), (Instr.makeFunc fn first cap).run Try.prog w = .ok (.func fn first cap) w := fun _ _ _ _ => rfl
  have hlt := h.lt
  obtain ⟨kW, hsW, e1, e2, e3⟩ := takW_at w p tb
  obtain ⟨ka, hsa, he, _⟩ := askW_at (takW w p tb) ⟨#[84, 97, 107, 101]⟩
  have hc : Calls Try.prog 48 #[.string ⟨#[84, 97, 107, 101]⟩, .func (.func 66) #[] #[.pointer (some ⟨w.heap.size, 0, none⟩), .pointer (some ⟨w.heap.size + 1, 0, none⟩), .pointer (some ⟨w.heap.size + 2, 0, none⟩)]]
      (takW w p tb) fun e w' => e = .returned .nilIface ∧ (∃ l, l.length = 512 ∧ IsFile w' (grow F w w') p s { S with f := S.set (S.nxt + 1) (some l), c := S.c + 1, nxt := S.nxt + 1 } size T) ∧ Keep F w w' ∧ w'.heap[w.heap.size + 2]? = some (.cells #[.int .u32 ((S.nxt + 1 : Nat) : Int)] 54 (0, 0)) := by
    have hf1 := (h.keep0 kW).keep0 ka
    have hbk : ∀ {i : Nat} {o : Obj}, (takW w p tb).heap[i]? = some o → (askW (takW w p tb) ⟨#[84, 97, 107, 101]⟩).heap[i]? = some o := fun {i o} h => (ka.block i (Array.getElem?_eq_some_iff.1 h).1 (fun h => h)).trans h
    have h4' := (kW.block tb (lt_of_block h4) (fun h => h)).trans h4
    have htb := lt_of_block h4
    have hcl := takeC_any hf1 hf hx hT' hl' (hbk e1) (hbk e2) (hbk e3) (hbk h4') ⟨fun hx => by have := hlt.1 _ hx; omega, fun hx => by have := hlt.1 _ hx; omega, fun hx => by have := hlt.1 _ hx; omega, hF⟩
    refine (ask_ok ⟨#[84, 97, 107, 101]⟩ 66 _ (fun w' => (∃ l, l.length = 512 ∧ IsFile w' (grow F (askW (takW w p tb) ⟨#[84, 97, 107, 101]⟩) w') p s { S with f := S.set (S.nxt + 1) (some l), c := S.c + 1, nxt := S.nxt + 1 } size T) ∧ Keep (fun x => F x ∨ x = w.heap.size + 2) (askW (takW w p tb) ⟨#[84, 97, 107, 101]⟩) w' ∧ w'.heap[w.heap.size + 2]? = some (.cells #[.int .u32 ((S.nxt + 1 : Nat) : Int)] 54 (0, 0)))
      (fun w' hr => by rw [hsW]; rw [hsW] at he; exact (hr.2.1.block _ (by omega) (fun hx => by
        rcases hx with hx | hx
        · have := hlt.1 _ hx; omega
        · omega)).trans he) Try.enTake hcl).mono ?_
    rintro e w' ⟨rfl, w1, ⟨⟨l, hl, h1⟩, h2, h3⟩, rfl⟩
    rw [hsW]
    have k3 : Keep (fun x => x = w.heap.size + 3 + 1) w1 ((w1.setCell ⟨w.heap.size + 3 + 1, 0, none⟩ .nilIface).setCell ⟨w.heap.size + 3 + 1, 0, none⟩ .nilIface) := ((Keep.refl (fun x => x = w.heap.size + 3 + 1) w1).setCell _ _ (.inl rfl)).setCell _ _ (.inl rfl)
    have hkk : Keep F w ((w1.setCell ⟨w.heap.size + 3 + 1, 0, none⟩ .nilIface).setCell ⟨w.heap.size + 3 + 1, 0, none⟩ .nilIface) := ((((Keep.refl F w).trans kW (fun _ h => h.elim)).trans ka (fun _ h => h.elim)).trans h2 (fun x hx => by rcases hx with hx | hx; exact .inl hx; exact .inr (by omega))).trans k3 (fun x e => .inr (by omega))
    have hs2 := h2.size
    have hsz : ((w1.setCell ⟨w.heap.size + 3 + 1, 0, none⟩ .nilIface).setCell ⟨w.heap.size + 3 + 1, 0, none⟩ .nilIface).heap.size = w1.heap.size := by simp
    have h5 := h1.keep k3 (by omega) (fun x hx e => by
      rcases hx with hx | hx
      · have := hlt.1 x hx; omega
      · omega)
    have h6 := (k3.block _ (lt_of_block h3) (by omega)).trans h3
    generalize (w1.setCell ⟨w.heap.size + 3 + 1, 0, none⟩ .nilIface).setCell ⟨w.heap.size + 3 + 1, 0, none⟩ .nilIface = w9 at *
    refine ⟨rfl, ⟨l, hl, h5.wide (fun x hx => ?_) (fun x hx => ?_) (fun hx => ?_)⟩, hkk, h6⟩
    · rcases hx with hx | hx
      · exact .inl hx
      · exact .inr (by omega)
    · rcases hx with hx | hx
      · have := hlt.1 x hx; omega
      · omega
    · rcases hx with hx | hx
      · exact h.pF hx
      · omega
  have HC := Lib.hid hc
  clear h hc h4 hT' ka hsa he e1 e2 e3 hsW kW hlt
  unfold takW at HC
  go_enter Try.func52, Try.ntmps52
  go_wp2_with fail
  refine HC.out.mono ?_
  rintro e w1 ⟨rfl, h1, k1, h3⟩
  have H1 := Lib.hid h1; have K1 := Lib.hid k1
  have c3 : w1.cell? ⟨w.heap.size + 2, 0, none⟩ = some (.int .u32 ((S.nxt + 1 : Nat) : Int)) := (cell_of_row _ _ _ _ _ _ h3).trans rfl
  obtain ⟨v, hv⟩ : ∃ v : Nat, v = S.nxt + 1 := ⟨_, rfl⟩
  have HV := Lib.hid hv
  rw [← hv] at c3
  clear h1 k1 h3 HC hv
  go_wp2
  go_ret2
  exact ⟨by rw [HV.out]; rfl, H1.out, K1.out⟩

/-- A store's error lies there: of Take, that there is no room. -/
def ErrAt (w : World) (lo r : Nat) : Prop := lo ≤ r ∧ w.heap[r]? = some (.cells #[.string ⟨#[84, 97, 107, 101]⟩, apiE 2] 129 (0, 0))

theorem ErrAt.keep {G : Nat → Prop} {w w' : World} {lo r : Nat} (h : ErrAt w lo r) (k : Keep G w w') (hG : ∀ x, G x → x < lo) : ErrAt w' lo r :=
  ⟨h.1, (k.block r (lt_of_block h.2) (fun hx => by have := hG r hx; have := h.1; omega)).trans h.2⟩

theorem ErrAt.low {w : World} {lo lo' r : Nat} (h : ErrAt w lo r) (hl : lo' ≤ lo) : ErrAt w lo' r := ⟨Nat.le_trans hl h.1, h.2⟩

set_option maxHeartbeats 1000000 in
theorem take_full {w : World} {F : Nat → Prop} {p s : Nat} {S : Sto} {size : Nat} {T : List Nat} (h : IsFile w F p s S size T) (hf : S.most ≤ S.c) (tb : Nat) :
    Calls Try.prog 52 #[.pointer (some ⟨p, 0, none⟩), .pointer (some ⟨tb, 0, none⟩)] w fun e w' => (∃ r, e = .returned (.tuple #[.int .u32 0, .iface 127 (.pointer (some ⟨r, 0, none⟩))]) ∧ ErrAt w' w.heap.size r) ∧ Keep (fun _ => False) w w' := by
  have hmf : ∀ (fn : Fn) (first cap : Array Value) (w : World), (Instr.makeFunc fn first cap).run Try.prog w = .ok (.func fn first cap) w := fun _ _ _ _ => rfl
  have hlt := h.lt
  obtain ⟨kW, hsW, e1, e2, e3⟩ := takW_at w p tb
  obtain ⟨ka, hsa, he, he2⟩ := askW_at (takW w p tb) ⟨#[84, 97, 107, 101]⟩
  have hc : Calls Try.prog 48 #[.string ⟨#[84, 97, 107, 101]⟩, .func (.func 66) #[] #[.pointer (some ⟨w.heap.size, 0, none⟩), .pointer (some ⟨w.heap.size + 1, 0, none⟩), .pointer (some ⟨w.heap.size + 2, 0, none⟩)]]
      (takW w p tb) fun e w' => (∃ r, e = .returned (.iface 127 (.pointer (some ⟨r, 0, none⟩))) ∧ ErrAt w' w.heap.size r) ∧ Keep (fun _ => False) w w' ∧ w'.heap[w.heap.size + 2]? = some (.cells #[.int .u32 0] 54 (0, 0)) := by
    have hf1 := (h.keep0 kW).keep0 ka
    have hcl := takeC_full hf1 hf (.pointer (some ⟨w.heap.size + 1, 0, none⟩)) (.pointer (some ⟨w.heap.size + 2, 0, none⟩)) ((ka.block _ (lt_of_block e1) (fun h => h)).trans e1)
    refine (ask_err ⟨#[84, 97, 107, 101]⟩ 66 _ 2 (fun w' => Keep (fun _ => False) (askW (takW w p tb) ⟨#[84, 97, 107, 101]⟩) w') (fun w' hr => ⟨(hr.block _ (by omega) (fun h => h)).trans he, (hr.block _ (by omega) (fun h => h)).trans he2⟩) Try.enTake hcl).mono ?_
    rintro e w' ⟨r, w1, rfl, h2, k3, hle, hE⟩
    have hs2 := h2.size
    have hkk : Keep (fun _ => False) w w' := ((kW.trans ka (fun _ h => h.elim)).trans h2 (fun _ h => h.elim)).trans k3 (fun x e => .inr (by omega))
    have h3 := (h2.block _ (by omega) (fun h => h)).trans ((ka.block _ (lt_of_block e3) (fun h => h)).trans e3)
    exact ⟨⟨r, rfl, by omega, hE⟩, hkk, (k3.block _ (lt_of_block h3) (by omega)).trans h3⟩
  have HC := Lib.hid hc
  clear h hc ka hsa he he2 e1 e2 e3 hsW kW hlt
  unfold takW at HC
  go_enter Try.func52, Try.ntmps52
  go_wp2_with fail
  refine HC.out.mono ?_
  rintro e w1 ⟨⟨r, rfl, hE⟩, k1, h3⟩
  have HE := Lib.hid hE
  have K1 := Lib.hid k1
  have c3 : w1.cell? ⟨w.heap.size + 2, 0, none⟩ = some (.int .u32 0) := (cell_of_row _ _ _ _ _ _ h3).trans rfl
  clear k1 h3 HC hE
  go_wp2
  go_ret2
  exact ⟨⟨r, rfl, HE.out⟩, K1.out⟩

end Go.Proofs.Ytejeadccpigepaa.Ino
