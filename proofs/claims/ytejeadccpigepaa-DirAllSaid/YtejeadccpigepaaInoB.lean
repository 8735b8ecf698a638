/- Files on blocks: get, put, free, take. -/
import Derived.Test.YtejeadccpigepaaIno
import Derived.Laws.ResultCell
import Derived.Shelf.Abstract
namespace Go.Proofs.Ytejeadccpigepaa.Ino
open Go.RowKit Go.Maps Go.Proofs.Ytejeadccpigepaa
set_option maxRecDepth 100000

theorem IsFile.keep0 {w w' : World} {F : Nat → Prop} {p s : Nat} {S : Sto} {size : Nat} {T : List Nat} (h : IsFile w F p s S size T) (k : Keep (fun _ => False) w w') : IsFile w' F p s S size T := h.keep k (fun h => h) (fun _ _ h => h)

theorem heap_past {w : World} {o o' : Obj} {i : Nat} (h : w.heap[i]? = some o) : (w.alloc o').heap[i]? = some o := by
  have hi : i < w.heap.size := (Array.getElem?_eq_some_iff.1 h).1
  rw [((Keep.refl (fun _ => False) w).alloc o').block i hi (fun h => h)]; exact h

/-- A result that is an array in a variable of its own, and one more. -/
theorem results_arr {P : Program} {fn : Func} {p u : Tmp} {ty : TypeId} (h : fn.results = #[.cell p ty, .tmp u]) (tmps : Array Value) (w : World) (g : Nat) {t : TypeId} {cs : Array Value} {fr : Nat × Nat} {d : TypeDesc} (hp : tmps.getD p undef = .pointer (some ⟨g, 0, none⟩)) (hg : w.heap[g]? = some (.cells cs t fr))
    (hu : P.underlying ty = some d) (hd : (match d with | .struct _ | .array _ _ => true | _ => false) = true) (hi : (P.info? ty).map (·.size) = some cs.size) : (results fn tmps).run P w = .ok (.tuple #[.agg cs, tmps.getD u undef]) w := by
  rw [results_cell_tmp h, hp]
  simp only [asAddr, Sem.run_pure, Result.andThen_ok, run_loadVar_row w g t ty cs fr d hg hu hd hi]

set_option maxHeartbeats 1000000 in
theorem get_zero {w : World} (p : Nat) :
    Calls Try.prog 38 #[.pointer (some ⟨p, 0, none⟩), .int .u32 0] w fun e w' => e = .returned (.tuple #[.agg (blkC zero512), .nilIface]) ∧ Keep (fun _ => False) w w' := by
  obtain ⟨Z, hzv, hz5, hz1, HZ⟩ := z512
  obtain ⟨w1, hw1⟩ : ∃ w1, w1 = (((w.alloc (.cells #[.pointer (some ⟨p, 0, none⟩)] 28)).alloc (.cells #[.int .u32 0] 54)).alloc (.cells Z 85)) := ⟨_, rfl⟩
  have hs1 : w1.heap.size = w.heap.size + 3 := by rw [hw1]; simp
  have h2 : (w1.alloc (.cells Z 85)).heap[w.heap.size + 2]? = some (.cells Z 85 (0, 0)) := by
    refine heap_past ?_
    have := heap_alloc_new ((w.alloc (.cells #[.pointer (some ⟨p, 0, none⟩)] 28)).alloc (.cells #[.int .u32 0] 54)) (.cells Z 85)
    rw [hw1]; simpa using this
  have h3 : (w1.alloc (.cells Z 85)).heap[w.heap.size + 3]? = some (.cells Z 85 (0, 0)) := by
    rw [← hs1]; exact heap_alloc_new w1 _
  have hk : Keep (fun _ => False) w (w1.alloc (.cells Z 85)) := by rw [hw1]; exact ((((Keep.refl _ w).alloc _).alloc _).alloc _).alloc _
  rw [hw1] at h2 h3 hk
  have H2 := Lib.hid h2; have H3 := Lib.hid h3; have HK := Lib.hid hk
  clear h2 h3 hk hs1 hw1
  go_enter Try.func38, Try.ntmps38
  go_wp2_with (first | (refine wpList_load_blkC rfl _ rfl (w.heap.size + 3) Z hz5 rfl H3.out ?_) | (refine wpList_store_blkC rfl _ _ rfl (w.heap.size + 2) Z Z hz5 hz5 hz1 rfl rfl H2.out ?_; intro w4 h4 k4 _; have H4 := Lib.hid h4; have K4 := Lib.hid k4; clear h4 k4))
  refine bodyPost_ret (results_arr Try.results38 _ _ (w.heap.size + 2) rfl H4.out Try.underlying85 rfl (by rw [hz5]; exact Try.infoBlk)) rfl ?_
  exact ⟨by rw [HZ.out]; rfl, HK.out.trans K4.out (fun x e => .inr (by omega))⟩

/-- The world in which get asks. -/
def getW (w : World) (p n : Nat) (Z : Array Value) : World := (((w.alloc (.cells #[.pointer (some ⟨p, 0, none⟩)] 28)).alloc (.cells #[.int .u32 (n : Int)] 54)).alloc (.cells Z 85)).alloc (.cells Z 85)

structure GetAt (w : World) (p n : Nat) (Z : Array Value) (nm : ByteArray) (W : World) : Prop where
  bf : W.heap[w.heap.size]? = some (.cells #[.pointer (some ⟨p, 0, none⟩)] 28 (0, 0))
  bn : W.heap[w.heap.size + 1]? = some (.cells #[.int .u32 (n : Int)] 54 (0, 0))
  br : W.heap[w.heap.size + 2]? = some (.cells Z 85 (0, 0))
  bb : W.heap[w.heap.size + 3]? = some (.cells Z 85 (0, 0))
  keep : Keep (fun _ => False) w W

theorem getW_at (w : World) (p n : Nat) (Z : Array Value) (nm : ByteArray) : GetAt w p n Z nm (getW w p n Z) ∧ (getW w p n Z).heap.size = w.heap.size + 4 := by
  refine ⟨⟨?_, ?_, ?_, ?_, ((((Keep.refl _ w).alloc _).alloc _).alloc _).alloc _⟩, by simp [getW]⟩
  · exact heap_past (heap_past (heap_past (heap_alloc_new w _)))
  · refine heap_past (heap_past ?_)
    have := heap_alloc_new (w.alloc (.cells #[.pointer (some ⟨p, 0, none⟩)] 28)) (.cells #[.int .u32 (n : Int)] 54)
    simpa using this
  · refine heap_past ?_
    have := heap_alloc_new ((w.alloc (.cells #[.pointer (some ⟨p, 0, none⟩)] 28)).alloc (.cells #[.int .u32 (n : Int)] 54)) (.cells Z 85)
    simpa using this
  · have := heap_alloc_new (((w.alloc (.cells #[.pointer (some ⟨p, 0, none⟩)] 28)).alloc (.cells #[.int .u32 (n : Int)] 54)).alloc (.cells Z 85)) (.cells Z 85)
    simp only [World.size_alloc] at this
    exact this

theorem GetAt.go {w W W' : World} {p n : Nat} {Z : Array Value} {nm : ByteArray} (h : GetAt w p n Z nm W) (k : Keep (fun _ => False) W W') : GetAt w p n Z nm W' :=
  ⟨(k.block _ (lt_of_block h.bf) (fun h => h)).trans h.bf, (k.block _ (lt_of_block h.bn) (fun h => h)).trans h.bn, (k.block _ (lt_of_block h.br) (fun h => h)).trans h.br, (k.block _ (lt_of_block h.bb) (fun h => h)).trans h.bb, h.keep.trans k (fun _ h => h.elim)⟩

theorem Try.enGet : ∀ args w, (callFunc 49 args).run Try.prog w = .ok (.enter 49 args) w := enters_of Try.func49 (by kernel_rfl) rfl

theorem askW_at (w : World) (nm : ByteArray) : Keep (fun _ => False) w (askW w nm) ∧ (askW w nm).heap.size = w.heap.size + 2 ∧ (askW w nm).heap[w.heap.size + 1]? = some (.cells #[.nilIface] 37 (0, 0)) ∧ (askW w nm).heap[w.heap.size]? = some (.cells #[.string nm] 9 (0, 0)) := by
  refine ⟨((Keep.refl _ w).alloc _).alloc _, by simp [askW], ?_, heap_past (heap_alloc_new w _)⟩
  have := heap_alloc_new (w.alloc (.cells #[.string nm] 9)) (.cells #[.nilIface] 37)
  simpa [askW] using this

/-- What get's asking comes to. -/
theorem get_ask {w : World} {F : Nat → Prop} {p s : Nat} {S : Sto} {size : Nat} {T : List Nat} (h : IsFile w F p s S size T) {n : Nat} {l : List UInt8} (hn : S.f n = some l) {Z : Array Value} (hZ : Z.size = 512) (nm : ByteArray) :
    Calls Try.prog 48 #[.string nm, .func (.func 49) #[] #[.pointer (some ⟨w.heap.size, 0, none⟩), .pointer (some ⟨w.heap.size + 1, 0, none⟩), .pointer (some ⟨w.heap.size + 3, 0, none⟩)]] (getW w p n Z) fun e w' => e = .returned .nilIface ∧ Keep (fun x => x = w.heap.size + 3) (getW w p n Z) w' ∧ w'.heap[w.heap.size + 3]? = some (.cells (blkC l) 85 (0, 0)) := by
  obtain ⟨hg, hsz⟩ := getW_at w p n Z nm
  obtain ⟨ka, hsa, he, _⟩ := askW_at (getW w p n Z) nm
  have hga := hg.go ka
  have hf := h.keep0 hga.keep
  rw [hsz] at he hsa
  have hc := getC_any hf hn hZ hga.bf hga.bn hga.bb
  refine (ask_ok nm 49 _ (fun w' => w'.heap[w.heap.size + 3]? = some (.cells (blkC l) 85 (0, 0)) ∧ Keep (fun x => x = w.heap.size + 3) (askW (getW w p n Z) nm) w') (fun w' hr => ?_) Try.enGet hc).mono ?_
  · rw [hsz]; exact (hr.2.block _ (by omega) (by omega)).trans he
  · rintro e w' ⟨rfl, w1, ⟨h1, h2⟩, rfl⟩
    rw [hsz]
    have k3 : Keep (fun x => x = w.heap.size + 4 + 1) w1 ((w1.setCell ⟨w.heap.size + 4 + 1, 0, none⟩ .nilIface).setCell ⟨w.heap.size + 4 + 1, 0, none⟩ .nilIface) := ((Keep.refl (fun x => x = w.heap.size + 4 + 1) w1).setCell _ _ (.inl rfl)).setCell _ _ (.inl rfl)
    refine ⟨rfl, ((ka.mono (fun _ _ h => h.elim)).trans h2 (fun x h => .inl h)).trans k3 (fun x e => .inr (by omega)), (k3.block _ (lt_of_block h1) (by omega)).trans h1⟩

set_option maxHeartbeats 1000000 in
theorem get_any {w : World} {F : Nat → Prop} {p s : Nat} {S : Sto} {size : Nat} {T : List Nat} (h : IsFile w F p s S size T) {n : Nat} {l : List UInt8} (hn : S.f n = some l) :
    Calls Try.prog 38 #[.pointer (some ⟨p, 0, none⟩), .int .u32 (n : Int)] w fun e w' => e = .returned (.tuple #[.agg (blkC l), .nilIface]) ∧ Keep (fun _ => False) w w' := by
  obtain ⟨Z, hzv, hz5, hz1, HZ⟩ := z512
  have hmf : ∀ (fn : Fn) (first cap : Array Value) (w : World), (Instr.makeFunc fn first cap).run Try.prog w = .ok (.func fn first cap) w := fun _ _ _ _ => rfl
  have hne : ((n : Int) == 0) = false := by
    obtain ⟨b, D, hs⟩ := h.sto
    have := hs.small n (by rw [hn]; simp)
    simp; omega
  have hl : l.length = 512 := by obtain ⟨b, D, hs⟩ := h.sto; exact hs.len hn
  have HC := Lib.hid (get_ask h hn hz5 ⟨#[71, 101, 116]⟩)
  have hg := (getW_at w p n Z ⟨#[]⟩).1
  have HG := Lib.hid hg
  clear h hn hg
  unfold getW at HC HG
  go_enter Try.func38, Try.ntmps38
  go_wp2_with fail
  refine HC.out.mono ?_
  rintro e w1 ⟨rfl, k1, h1⟩
  have H1 := Lib.hid h1
  have HR := Lib.hid ((k1.block _ (lt_of_block HG.out.br) (by omega)).trans HG.out.br)
  have K1 := Lib.hid (HG.out.keep.trans k1 (fun x e => .inr (by omega)))
  clear h1 k1 HC HG
  have hcl : (blkC l).size = 512 := by rw [blkC_size, hl]
  go_wp2_with (first | (refine wpList_load_blkC rfl _ rfl (w.heap.size + 3) (blkC l) hcl rfl H1.out ?_) | (refine wpList_store_blk rfl _ _ rfl (w.heap.size + 2) Z l hz5 hl rfl rfl HR.out ?_; intro w4 h4 k4 _; have H4 := Lib.hid h4; have K4 := Lib.hid k4; clear h4 k4))
  refine bodyPost_ret (results_arr Try.results38 _ _ (w.heap.size + 2) rfl H4.out Try.underlying85 rfl (by rw [hcl]; exact Try.infoBlk)) rfl ?_
  exact ⟨rfl, K1.out.trans K4.out (fun x e => .inr (by omega))⟩

end Go.Proofs.Ytejeadccpigepaa.Ino
