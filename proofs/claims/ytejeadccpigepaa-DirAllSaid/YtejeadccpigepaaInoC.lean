/- Files on blocks: put, free. -/
import Derived.Test.YtejeadccpigepaaInoB
namespace Go.Proofs.Ytejeadccpigepaa.Ino
open Go.RowKit Go.Maps Go.Proofs.Ytejeadccpigepaa
set_option maxRecDepth 100000

theorem Try.slBlk (g : Nat) (w : World) : (Instr.sliceAt 85 (.pointer (some ⟨g, 0, none⟩)) none none none).run Try.prog w = .ok (.slice (some ⟨g, 0, none⟩) 512 512) w := by kernel_rfl

theorem blk_row {w : World} {g : Nat} {l : List UInt8} {t : TypeId} (h : w.heap[g]? = some (.cells (blkC l) t (0, 0))) (hl : l.length = 512) : Row w t 1 (.slice (some ⟨g, 0, none⟩) 512 512) 512 (bcells l) := by
  refine ⟨by simp [bcells_length, hl], .inr ⟨g, 0, 512, _, 0, 0, rfl, h, by omega, by simp [maxLen], by rw [blkC_size, hl]; omega, .inl (Nat.le_refl _), ?_⟩⟩
  simp only [List.drop_zero, blkC]
  exact List.take_of_length_le (by simp [bcells_length, hl])

theorem IsFile.lt {w : World} {F : Nat → Prop} {p s : Nat} {S : Sto} {size : Nat} {T : List Nat} (h : IsFile w F p s S size T) : (∀ x, F x → x < w.heap.size) ∧ p < w.heap.size := by
  obtain ⟨b, D, hs⟩ := h.sto
  exact ⟨hs.lt, lt_of_block h.head⟩

/-- The store has turned. -/
theorem IsFile.turned {w w1 : World} {F : Nat → Prop} {p s b : Nat} {S S' : Sto} {size : Nat} {T : List Nat} (h : IsFile w F p s S size T) (hd : ∃ D', IsSto w1 (grow F w w1) s b D' S') (k : Keep F w w1) : IsFile w1 (grow F w w1) p s S' size T := by
  obtain ⟨D', hs⟩ := hd
  refine ⟨(k.block p h.lt.2 h.pF).trans h.head, ⟨b, D', hs⟩, fun hx => ?_, h.len, h.fit⟩
  rcases hx with hx | hx
  · exact h.pF hx
  · have := h.lt.2; omega

theorem IsFile.wide {w : World} {F F' : Nat → Prop} {p s : Nat} {S : Sto} {size : Nat} {T : List Nat} (h : IsFile w F p s S size T) (hF : ∀ x, F x → F' x) (hlt : ∀ x, F' x → x < w.heap.size) (hp : ¬ F' p) : IsFile w F' p s S size T := by
  obtain ⟨b, D, hs⟩ := h.sto
  exact ⟨h.head, ⟨b, D, hs.head, hs.own, hs.size, fun j => (hs.each j).go rfl rfl (fun _ _ _ _ _ h => h) hF, hs.small, hs.nxt, hs.cmax, hs.most, hF _ hs.fs, hF _ hs.fb, hlt⟩, hp, h.len, h.fit⟩

/-- What ask comes to where the closure turns the store. -/
theorem ask_file {w W : World} {F : Nat → Prop} {p s : Nat} {S S' : Sto} {size : Nat} {T : List Nat} (h : IsFile w F p s S size T) (kW : Keep (fun _ => False) w W) (nm : ByteArray) (g : FuncId) (cap : Array Value) (X : World → Prop) (hX : ∀ w1 w2, Keep (fun x => x = W.heap.size + 1) w1 w2 → X w1 → X w2)
    (hg : ∀ args w, (callFunc g args).run Try.prog w = .ok (.enter g args) w)
    {G : Nat → Prop} (hG : ∀ x, G x → x ≠ W.heap.size + 1 ∧ (F x ∨ w.heap.size ≤ x)) (hc : Calls Try.prog g cap (askW W nm) fun e w' => e = .returned .nilIface ∧ IsFile w' (grow F (askW W nm) w') p s S' size T ∧ Keep G (askW W nm) w' ∧ X w') :
    Calls Try.prog 48 #[.string nm, .func (.func g) #[] cap] W fun e w' => e = .returned .nilIface ∧ IsFile w' (grow F w w') p s S' size T ∧ Keep F w w' ∧ X w' := by
  obtain ⟨ka, hsa, he, _⟩ := askW_at W nm
  have hlt := h.lt
  have hs1 := kW.size
  refine (ask_ok nm g cap (fun w' => IsFile w' (grow F (askW W nm) w') p s S' size T ∧ Keep G (askW W nm) w' ∧ X w') (fun w' hr => (hr.2.1.block _ (by omega) (fun hx => (hG _ hx).1 rfl)).trans he) hg hc).mono ?_
  rintro e w' ⟨rfl, w1, ⟨h1, h2, h3⟩, rfl⟩
  have k3 : Keep (fun x => x = W.heap.size + 1) w1 ((w1.setCell ⟨W.heap.size + 1, 0, none⟩ .nilIface).setCell ⟨W.heap.size + 1, 0, none⟩ .nilIface) := ((Keep.refl (fun x => x = W.heap.size + 1) w1).setCell _ _ (.inl rfl)).setCell _ _ (.inl rfl)
  have hkk : Keep F w ((w1.setCell ⟨W.heap.size + 1, 0, none⟩ .nilIface).setCell ⟨W.heap.size + 1, 0, none⟩ .nilIface) := ((((Keep.refl F w).trans kW (fun _ h => h.elim)).trans ka (fun _ h => h.elim)).trans h2 (fun x hx => (hG x hx).2)).trans k3 (fun x e => .inr (by omega))
  have hs2 := h2.size
  have hsz : ((w1.setCell ⟨W.heap.size + 1, 0, none⟩ .nilIface).setCell ⟨W.heap.size + 1, 0, none⟩ .nilIface).heap.size = w1.heap.size := by simp
  have h4 := h1.keep k3 (by omega) (fun x hx e => by
    rcases hx with hx | hx
    · have := hlt.1 x hx; omega
    · omega)
  have hx := hX _ _ k3 h3
  generalize (w1.setCell ⟨W.heap.size + 1, 0, none⟩ .nilIface).setCell ⟨W.heap.size + 1, 0, none⟩ .nilIface = w9 at *
  refine ⟨rfl, h4.wide (fun x hx => ?_) (fun x hx => ?_) (fun hx => ?_), hkk, hx⟩
  · rcases hx with hx | hx
    · exact .inl hx
    · exact .inr (by omega)
  · rcases hx with hx | hx
    · have := hlt.1 x hx; omega
    · omega
  · rcases hx with hx | hx
    · exact h.pF hx
    · omega

set_option maxHeartbeats 1000000 in
theorem putC_any {w : World} {F : Nat → Prop} {p s : Nat} {S : Sto} {size : Nat} {T : List Nat} (h : IsFile w F p s S size T) {n : Nat} {l0 l : List UInt8} (hn : S.f n = some l0) (hl : l.length = 512) {bf bn bb : Nat}
    (h1 : w.heap[bf]? = some (.cells #[.pointer (some ⟨p, 0, none⟩)] 28 (0, 0))) (h2 : w.heap[bn]? = some (.cells #[.int .u32 (n : Int)] 54 (0, 0))) (h3 : w.heap[bb]? = some (.cells (blkC l) 85 (0, 0))) (hF : ¬ F bf ∧ ¬ F bn ∧ ¬ F p) :
    Calls Try.prog 69 #[.pointer (some ⟨bf, 0, none⟩), .pointer (some ⟨bn, 0, none⟩), .pointer (some ⟨bb, 0, none⟩)] w fun e w' => e = .returned .nilIface ∧ IsFile w' (grow F w w') p s { S with f := S.set n (some l) } size T ∧ Keep F w w' := by
  obtain ⟨b, D, hs⟩ := h.sto
  have c0 := h.cell 0
  simp only [List.getElem?_cons_zero] at c0
  have d1 : w.cell? ⟨bf, 0, none⟩ = some (.pointer (some ⟨p, 0, none⟩)) := (cell_of_row _ _ _ _ _ _ h1).trans rfl
  have d2 : w.cell? ⟨bn, 0, none⟩ = some (.int .u32 (n : Int)) := (cell_of_row _ _ _ _ _ _ h2).trans rfl
  have hsm := hs.small n (by rw [hn]; simp)
  have hnx := hs.nxt
  have HS := Lib.hid hs; have HF := Lib.hid h
  have HR : Hid (Row w.drew 85 1 (.slice (some ⟨bb, 0, none⟩) 512 512) 512 (bcells l)) := Lib.hid (blk_row h3 hl)
  have HSD : Hid (IsSto w.drew F s b D S) := Lib.hid (hs.keep0 (Keep.refl (fun _ => False) w).drew)
  have hmth := Try.mPut
  have hwr := i64_nat n (by omega)
  have hsl := Try.slBlk bb
  clear h hs h1 h2 h3
  go_enter Try.func69, Try.ntmps69
  go_wp2_with fail
  go_region_held3 (fun w' => w'.cell? ⟨bf, 0, none⟩ = some (.pointer (some ⟨p, 0, none⟩)) ∧ w'.cell? ⟨bn, 0, none⟩ = some (.int .u32 (n : Int)) ∧ w'.cell? ⟨p, 0, none⟩ = some (.iface 24 (.pointer (some ⟨s, 0, none⟩)))) (go_keep) (first | (go_at_call 97; refine (sput_any HSD.out hn HR.out hl).mono ?_; rintro e w1 ⟨rfl, hd, hk⟩; have HD := Lib.hid hd; have HK := Lib.hid hk; have q1 : w1.cell? ⟨bf, 0, none⟩ = some (.pointer (some ⟨p, 0, none⟩)) := (hk.cell (b := bf) (World.block_lt_of_cell? _ _ d1) hF.1 0).trans d1; have q2 : w1.cell? ⟨bn, 0, none⟩ = some (.int .u32 (n : Int)) := (hk.cell (b := bn) (World.block_lt_of_cell? _ _ d2) hF.2.1 0).trans d2; have q3 : w1.cell? ⟨p, 0, none⟩ = some (.iface 24 (.pointer (some ⟨s, 0, none⟩))) := (hk.cell (b := p) (World.block_lt_of_cell? _ _ c0) hF.2.2 0).trans c0; clear hd hk))
  all_goals go_wp2
  all_goals go_ret
  all_goals exact ⟨rfl, HF.out.turned HD.out ((Keep.refl F w).drew.trans HK.out (fun _ h => .inl h)), (Keep.refl F w).drew.trans HK.out (fun _ h => .inl h)⟩

theorem Try.enPut : ∀ args w, (callFunc 69 args).run Try.prog w = .ok (.enter 69 args) w := enters_of Try.func69 (by kernel_rfl) rfl
theorem Try.enFree : ∀ args w, (callFunc 70 args).run Try.prog w = .ok (.enter 70 args) w := enters_of Try.func70 (by kernel_rfl) rfl
theorem Try.enTake : ∀ args w, (callFunc 66 args).run Try.prog w = .ok (.enter 66 args) w := enters_of Try.func66 (by kernel_rfl) rfl

theorem put_zero {w : World} (p : Nat) (l : List UInt8) :
    Calls Try.prog 55 #[.pointer (some ⟨p, 0, none⟩), .int .u32 0, .agg (blkC l)] w fun e w' => e = .returned .nilIface ∧ Keep (fun _ => False) w w' := by
  generalize blkC l = C
  have HK : Hid (Keep (fun _ => False) w (((w.alloc (.cells #[.pointer (some ⟨p, 0, none⟩)] 28)).alloc (.cells #[.int .u32 0] 54)).alloc (.cells C 85))) := Lib.hid ((((Keep.refl _ w).alloc _).alloc _).alloc _)
  go_enter Try.func55, Try.ntmps55
  go_wp2
  go_ret
  exact ⟨rfl, HK.out⟩

set_option maxHeartbeats 1000000 in
theorem put_any {w : World} {F : Nat → Prop} {p s : Nat} {S : Sto} {size : Nat} {T : List Nat} (h : IsFile w F p s S size T) {n : Nat} {l0 l : List UInt8} (hn : S.f n = some l0) (hl : l.length = 512) :
    Calls Try.prog 55 #[.pointer (some ⟨p, 0, none⟩), .int .u32 (n : Int), .agg (blkC l)] w fun e w' => e = .returned .nilIface ∧ IsFile w' (grow F w w') p s { S with f := S.set n (some l) } size T ∧ Keep F w w' := by
  have hmf : ∀ (fn : Fn) (first cap : Array Value) (w : World), (Instr.makeFunc fn first cap).run Try.prog w = .ok (.func fn first cap) w := fun _ _ _ _ => rfl
  have hne : ((n : Int) == 0) = false := by
    obtain ⟨b, D, hs⟩ := h.sto
    have := hs.small n (by rw [hn]; simp)
    simp; omega
  have hlt := h.lt
  have hc : Calls Try.prog 48 #[.string ⟨#[80, 117, 116]⟩, .func (.func 69) #[] #[.pointer (some ⟨w.heap.size, 0, none⟩), .pointer (some ⟨w.heap.size + 1, 0, none⟩), .pointer (some ⟨w.heap.size + 2, 0, none⟩)]]
      (((w.alloc (.cells #[.pointer (some ⟨p, 0, none⟩)] 28)).alloc (.cells #[.int .u32 (n : Int)] 54)).alloc (.cells (blkC l) 85)) fun e w' => e = .returned .nilIface ∧ IsFile w' (grow F w w') p s { S with f := S.set n (some l) } size T ∧ Keep F w w' ∧ True := by
    have e1 := heap_alloc_new w (.cells #[.pointer (some ⟨p, 0, none⟩)] 28)
    have e2 := heap_alloc_new (w.alloc (.cells #[.pointer (some ⟨p, 0, none⟩)] 28)) (.cells #[.int .u32 (n : Int)] 54)
    have e3 := heap_alloc_new ((w.alloc (.cells #[.pointer (some ⟨p, 0, none⟩)] 28)).alloc (.cells #[.int .u32 (n : Int)] 54)) (.cells (blkC l) 85)
    have kW : Keep (fun _ => False) w (((w.alloc (.cells #[.pointer (some ⟨p, 0, none⟩)] 28)).alloc (.cells #[.int .u32 (n : Int)] 54)).alloc (.cells (blkC l) 85)) := (((Keep.refl _ w).alloc _).alloc _).alloc _
    have hsW : (((w.alloc (.cells #[.pointer (some ⟨p, 0, none⟩)] 28)).alloc (.cells #[.int .u32 (n : Int)] 54)).alloc (.cells (blkC l) 85)).heap.size = w.heap.size + 3 := by simp
    have e1' := heap_past (o' := .cells (blkC l) 85) (heap_past (o' := .cells #[.int .u32 (n : Int)] 54) e1)
    have e2' := heap_past (o' := .cells (blkC l) 85) e2
    simp only [World.size_alloc] at e2 e2' e3
    generalize (((w.alloc (.cells #[.pointer (some ⟨p, 0, none⟩)] 28)).alloc (.cells #[.int .u32 (n : Int)] 54)).alloc (.cells (blkC l) 85)) = W at *
    obtain ⟨ka, hsa, _, _⟩ := askW_at W ⟨#[80, 117, 116]⟩
    have hf := (h.keep0 kW).keep0 ka
    have hbk : ∀ {i : Nat} {o : Obj}, W.heap[i]? = some o → (askW W ⟨#[80, 117, 116]⟩).heap[i]? = some o := fun {i o} h => (ka.block i (Array.getElem?_eq_some_iff.1 h).1 (fun h => h)).trans h
    refine ask_file (G := F) h kW _ _ _ (fun _ => True) (fun _ _ _ h => h) Try.enPut (fun x hx => ⟨by have := hlt.1 x hx; omega, .inl hx⟩) ?_
    refine (putC_any hf hn hl (hbk e1') (hbk e2') (hbk e3) ⟨fun hx => by have := hlt.1 _ hx; omega, fun hx => by have := hlt.1 _ hx; omega, h.pF⟩).mono ?_
    rintro e w' ⟨rfl, h1, h2⟩
    exact ⟨rfl, h1, h2, trivial⟩
  have HC := Lib.hid hc
  clear h hn hc hl
  generalize blkC l = C at *
  go_enter Try.func55, Try.ntmps55
  go_wp2_with fail
  refine HC.out.mono ?_
  rintro e w1 ⟨rfl, h1, k1, _⟩
  have H1 := Lib.hid h1; have K1 := Lib.hid k1
  clear h1 k1 HC
  go_wp2
  go_ret
  exact ⟨rfl, H1.out, K1.out⟩

set_option maxHeartbeats 1000000 in
theorem freeC_any {w : World} {F : Nat → Prop} {p s : Nat} {S : Sto} {size : Nat} {T : List Nat} (h : IsFile w F p s S size T) {n : Nat} {l0 : List UInt8} (hn : S.f n = some l0) {bf bn : Nat}
    (h1 : w.heap[bf]? = some (.cells #[.pointer (some ⟨p, 0, none⟩)] 28 (0, 0))) (h2 : w.heap[bn]? = some (.cells #[.int .u32 (n : Int)] 54 (0, 0))) (hF : ¬ F bf ∧ ¬ F bn ∧ ¬ F p) :
    Calls Try.prog 70 #[.pointer (some ⟨bf, 0, none⟩), .pointer (some ⟨bn, 0, none⟩)] w fun e w' => e = .returned .nilIface ∧ IsFile w' (grow F w w') p s { S with f := S.set n none, c := S.c - 1 } size T ∧ Keep F w w' := by
  obtain ⟨b, D, hs⟩ := h.sto
  have c0 := h.cell 0
  simp only [List.getElem?_cons_zero] at c0
  have d1 : w.cell? ⟨bf, 0, none⟩ = some (.pointer (some ⟨p, 0, none⟩)) := (cell_of_row _ _ _ _ _ _ h1).trans rfl
  have d2 : w.cell? ⟨bn, 0, none⟩ = some (.int .u32 (n : Int)) := (cell_of_row _ _ _ _ _ _ h2).trans rfl
  have hsm := hs.small n (by rw [hn]; simp)
  have hnx := hs.nxt
  have HS := Lib.hid hs; have HF := Lib.hid h
  have HSD : Hid (IsSto w.drew F s b D S) := Lib.hid (hs.keep0 (Keep.refl (fun _ => False) w).drew)
  have hmth := Try.mFree
  have hwr := i64_nat n (by omega)
  clear h hs h1 h2
  go_enter Try.func70, Try.ntmps70
  go_wp2_with fail
  go_region_held3 (fun w' => w'.cell? ⟨bf, 0, none⟩ = some (.pointer (some ⟨p, 0, none⟩)) ∧ w'.cell? ⟨bn, 0, none⟩ = some (.int .u32 (n : Int)) ∧ w'.cell? ⟨p, 0, none⟩ = some (.iface 24 (.pointer (some ⟨s, 0, none⟩)))) (go_keep) (first | (go_at_call 95; refine (sfree_any HSD.out hn).mono ?_; rintro e w1 ⟨rfl, hd, hk⟩; have HD := Lib.hid hd; have HK := Lib.hid hk; have q1 : w1.cell? ⟨bf, 0, none⟩ = some (.pointer (some ⟨p, 0, none⟩)) := (hk.cell (b := bf) (World.block_lt_of_cell? _ _ d1) hF.1 0).trans d1; have q2 : w1.cell? ⟨bn, 0, none⟩ = some (.int .u32 (n : Int)) := (hk.cell (b := bn) (World.block_lt_of_cell? _ _ d2) hF.2.1 0).trans d2; have q3 : w1.cell? ⟨p, 0, none⟩ = some (.iface 24 (.pointer (some ⟨s, 0, none⟩))) := (hk.cell (b := p) (World.block_lt_of_cell? _ _ c0) hF.2.2 0).trans c0; clear hd hk))
  all_goals go_wp2
  all_goals go_ret
  all_goals exact ⟨rfl, HF.out.turned HD.out ((Keep.refl F w).drew.trans HK.out (fun _ h => .inl h)), (Keep.refl F w).drew.trans HK.out (fun _ h => .inl h)⟩

theorem free_zero {w : World} (p : Nat) :
    Calls Try.prog 57 #[.pointer (some ⟨p, 0, none⟩), .int .u32 0] w fun e w' => e = .returned .nilIface ∧ Keep (fun _ => False) w w' := by
  have HK : Hid (Keep (fun _ => False) w ((w.alloc (.cells #[.pointer (some ⟨p, 0, none⟩)] 28)).alloc (.cells #[.int .u32 0] 54))) := Lib.hid (((Keep.refl _ w).alloc _).alloc _)
  go_enter Try.func57, Try.ntmps57
  go_wp2
  go_ret
  exact ⟨rfl, HK.out⟩

set_option maxHeartbeats 1000000 in
theorem free_any {w : World} {F : Nat → Prop} {p s : Nat} {S : Sto} {size : Nat} {T : List Nat} (h : IsFile w F p s S size T) {n : Nat} {l0 : List UInt8} (hn : S.f n = some l0) :
    Calls Try.prog 57 #[.pointer (some ⟨p, 0, none⟩), .int .u32 (n : Int)] w fun e w' => e = .returned .nilIface ∧ IsFile w' (grow F w w') p s { S with f := S.set n none, c := S.c - 1 } size T ∧ Keep F w w' := by
  have hmf : ∀ (fn : Fn) (first cap : Array Value) (w : World), (Instr.makeFunc fn first cap).run Try.prog w = .ok (.func fn first cap) w := fun _ _ _ _ => rfl
  have hne : ((n : Int) == 0) = false := by
    obtain ⟨b, D, hs⟩ := h.sto
    have := hs.small n (by rw [hn]; simp)
    simp; omega
  have hlt := h.lt
  have hc : Calls Try.prog 48 #[.string ⟨#[70, 114, 101, 101]⟩, .func (.func 70) #[] #[.pointer (some ⟨w.heap.size, 0, none⟩), .pointer (some ⟨w.heap.size + 1, 0, none⟩)]]
      ((w.alloc (.cells #[.pointer (some ⟨p, 0, none⟩)] 28)).alloc (.cells #[.int .u32 (n : Int)] 54)) fun e w' => e = .returned .nilIface ∧ IsFile w' (grow F w w') p s { S with f := S.set n none, c := S.c - 1 } size T ∧ Keep F w w' ∧ True := by
    have e1 := heap_alloc_new w (.cells #[.pointer (some ⟨p, 0, none⟩)] 28)
    have e2 := heap_alloc_new (w.alloc (.cells #[.pointer (some ⟨p, 0, none⟩)] 28)) (.cells #[.int .u32 (n : Int)] 54)
    have kW : Keep (fun _ => False) w ((w.alloc (.cells #[.pointer (some ⟨p, 0, none⟩)] 28)).alloc (.cells #[.int .u32 (n : Int)] 54)) := ((Keep.refl _ w).alloc _).alloc _
    have hsW : ((w.alloc (.cells #[.pointer (some ⟨p, 0, none⟩)] 28)).alloc (.cells #[.int .u32 (n : Int)] 54)).heap.size = w.heap.size + 2 := by simp
    have e1' := heap_past (o' := .cells #[.int .u32 (n : Int)] 54) e1
    simp only [World.size_alloc] at e2
    generalize ((w.alloc (.cells #[.pointer (some ⟨p, 0, none⟩)] 28)).alloc (.cells #[.int .u32 (n : Int)] 54)) = W at *
    obtain ⟨ka, hsa, _, _⟩ := askW_at W ⟨#[70, 114, 101, 101]⟩
    have hf := (h.keep0 kW).keep0 ka
    have hbk : ∀ {i : Nat} {o : Obj}, W.heap[i]? = some o → (askW W ⟨#[70, 114, 101, 101]⟩).heap[i]? = some o := fun {i o} h => (ka.block i (Array.getElem?_eq_some_iff.1 h).1 (fun h => h)).trans h
    refine ask_file (G := F) h kW _ _ _ (fun _ => True) (fun _ _ _ h => h) Try.enFree (fun x hx => ⟨by have := hlt.1 x hx; omega, .inl hx⟩) ?_
    refine (freeC_any hf hn (hbk e1') (hbk e2) ⟨fun hx => by have := hlt.1 _ hx; omega, fun hx => by have := hlt.1 _ hx; omega, h.pF⟩).mono ?_
    rintro e w' ⟨rfl, h1, h2⟩
    exact ⟨rfl, h1, h2, trivial⟩
  have HC := Lib.hid hc
  clear h hn hc
  go_enter Try.func57, Try.ntmps57
  go_wp2_with fail
  refine HC.out.mono ?_
  rintro e w1 ⟨rfl, h1, k1, _⟩
  have H1 := Lib.hid h1; have K1 := Lib.hid k1
  clear h1 k1 HC
  go_wp2
  go_ret
  exact ⟨rfl, H1.out, K1.out⟩


end Go.Proofs.Ytejeadccpigepaa.Ino
