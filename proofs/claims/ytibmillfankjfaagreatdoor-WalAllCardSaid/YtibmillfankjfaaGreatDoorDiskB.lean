/- What a write to a disk does, at every disk, sector and bytes. -/
import Derived.Test.YtibmillfankjfaaGreatDoorDiskA
namespace Go.Proofs.YtibmillfankjfaaGreatDoor
set_option maxRecDepth 100000
open Go.RowKit

/-- The blocks of a disk. -/
def diskOf (p : Nat) (vl vn vc : Value) : Nat → Prop := fun b => b = p ∨ vl.ownBlock = some b ∨ vn.ownBlock = some b ∨ vc.ownBlock = some b

/-- A disk whose blocks are among F. -/
def Disk (w : World) (F : Nat → Prop) (p : Nat) (D : Dk) : Prop := ∃ vl vn vc, IsDisk w p vl vn vc D ∧ ∀ b, diskOf p vl vn vc b → F b

/-- F, and what has been made. -/
def grow (F : Nat → Prop) (w w' : World) : Nat → Prop := fun b => F b ∨ (w.heap.size ≤ b ∧ b < w'.heap.size)

theorem IsDisk.keep {w w' : World} {F : Nat → Prop} {p : Nat} {vl vn vc : Value} {D : Dk} (h : IsDisk w p vl vn vc D) (k : Keep F w w') (hF : ∀ b, diskOf p vl vn vc b → ¬ F b) : IsDisk w' p vl vn vc D := by
  refine ⟨?_, h.las.keep k ?_, h.new.keep k ?_, h.cache.keep k ?_, h.ok, h.apart⟩
  · rw [k.block p (lt_of_block h.head) (hF p (.inl rfl))]; exact h.head
  · exact fun b hb => hF b (.inr (.inl hb))
  · exact fun b hb => hF b (.inr (.inr (.inl hb)))
  · exact fun b hb => hF b (.inr (.inr (.inr hb)))

theorem Disk.keep {w w' : World} {F G : Nat → Prop} {p : Nat} {D : Dk} (h : Disk w F p D) (k : Keep G w w') (hG : ∀ b, F b → ¬ G b) : Disk w' F p D := by
  obtain ⟨vl, vn, vc, hd, hF⟩ := h
  exact ⟨vl, vn, vc, hd.keep k (fun b hb => hG b (hF b hb)), hF⟩

theorem Disk.mono {w : World} {F G : Nat → Prop} {p : Nat} {D : Dk} (h : Disk w F p D) (hG : ∀ b, F b → G b) : Disk w G p D := by
  obtain ⟨vl, vn, vc, hd, hF⟩ := h
  exact ⟨vl, vn, vc, hd, fun b hb => hG b (hF b hb)⟩

theorem IsDisk.lt {w : World} {p : Nat} {vl vn vc : Value} {D : Dk} (h : IsDisk w p vl vn vc D) {b : Nat} (hb : diskOf p vl vn vc b) : b < w.heap.size := by
  rcases hb with rfl | hb | hb | hb
  · exact lt_of_block h.head
  · exact h.las.lt hb
  · exact h.new.lt hb
  · exact h.cache.lt hb

theorem IsDisk.ne1 {w : World} {p : Nat} {vl vn vc : Value} {D : Dk} (h : IsDisk w p vl vn vc D) {b : Nat} : (vl.ownBlock = some b → b ≠ p) ∧ (vn.ownBlock = some b → b ≠ p) ∧ (vc.ownBlock = some b → b ≠ p) := by
  refine ⟨fun hb e => ?_, fun hb e => ?_, fun hb e => ?_⟩ <;> subst e
  · obtain ⟨cs, f, hc⟩ := h.las.type hb; rw [h.head] at hc; simp at hc
  · obtain ⟨cs, f, hc⟩ := h.new.type hb; rw [h.head] at hc; simp at hc
  · obtain ⟨cs, f, hc⟩ := h.cache.type hb; rw [h.head] at hc; simp at hc

theorem IsDisk.ne2 {w : World} {p : Nat} {vl vn vc : Value} {D : Dk} (h : IsDisk w p vl vn vc D) {b : Nat} (hc : vc.ownBlock = some b) : vl.ownBlock ≠ some b ∧ vn.ownBlock ≠ some b := by
  obtain ⟨cs, f, h1⟩ := h.cache.type hc
  refine ⟨fun hb => ?_, fun hb => ?_⟩
  · obtain ⟨cs, f, hc⟩ := h.las.type hb; rw [h1] at hc; simp at hc
  · obtain ⟨cs, f, hc⟩ := h.new.type hb; rw [h1] at hc; simp at hc

theorem Tryz.infoC : (Tryz.prog.info? 81).map (fun i => (i.zero, i.size, i.bytes)) = some (some (.agg #[.int .i64 0, .string ⟨#[]⟩]), 2, 24) := by kernel_rfl

/-- What a write leaves. -/
def Dk.write (D : Dk) (i : Nat) (s : ByteArray) : Dk :=
  { D with new := D.new.set i s, cache := D.cache ++ [(i, s)], writes := D.writes + 1, left := if D.lim then D.left - 1 else D.left }

theorem Dk.Ok.write {D : Dk} (h : D.Ok) {i : Nat} {s : ByteArray} (hi : i < D.las.length) (hs : s.size = 512) : (D.write i s).Ok := by
  refine ⟨by simp [Dk.write, h.same], h.pos, fun x hx => ?_, h.slas, fun t ht => ?_⟩
  · simp only [Dk.write, List.mem_append, List.mem_singleton] at hx
    rcases hx with hx | rfl
    · exact h.inr x hx
    · exact ⟨hi, hs⟩
  · simp only [Dk.write] at ht
    rcases List.mem_or_eq_of_mem_set ht with ht | rfl
    · exact h.snew t ht
    · exact hs

theorem strs_get (l : List ByteArray) (i : Nat) (h : i < l.length) : (strs l)[i]? = some (.string (l.getD i default)) := by
  simp [strs, List.getD, List.getElem?_eq_getElem h]

/-- Behind the store into the sector, the append and the stores into the disk's own block: the disk that was written. -/
theorem write_done {w w1 : World} {p : Nat} {vl vn vc : Value} {D : Dk} (h : IsDisk w p vl vn vc D) (i gn on capn : Nat) (s : ByteArray) (o : Obj) (v' : Value) (hvn : vn = .slice (some ⟨gn, on, none⟩) D.new.length capn)
    (hrow : Row w1 81 2 v' (D.cache.length + 1) (chg D.cache ++ [.int .i64 i, .string s]))
    (hkeep : Keep (fun b => vc.ownBlock = some b) ((w.setCell ⟨gn, on + i, none⟩ (.string s)).alloc o) w1) (hown : ∀ b, v'.ownBlock = some b → vc.ownBlock = some b ∨ (w.heap.size + 1 ≤ b ∧ b < w1.heap.size))
    (w2 : World) (hok : (D.write i s).Ok) (left : Int) (hleft : left = (D.write i s).left) (hs2 : w1.heap.size = w2.heap.size) (hk2 : Keep (fun b => b = p) w1 w2) (hp2 : w2.heap[p]? = some (.cells #[vl, vn, v', .int .i64 (D.writes + 1), .bool D.lim, .int .i64 left] 79 (0, 0))) :
    Disk w2 (grow (diskOf p vl vn vc) w w2) p (D.write i s) ∧ Keep (diskOf p vl vn vc) w w2 := by
  have k0 : Keep (fun b => b = gn) w ((w.setCell ⟨gn, on + i, none⟩ (.string s)).alloc o) := (Keep.setCell (F := fun b => b = gn) (Keep.refl _ w) _ _ (.inl rfl)).alloc o
  have hgn : vn.ownBlock = some gn := by rw [hvn]; rfl
  have hsz : w.heap.size + 1 = ((w.setCell ⟨gn, on + i, none⟩ (.string s)).alloc o).heap.size := by simp
  have hsz1 := hkeep.size
  have hps := lt_of_block h.head
  refine ⟨⟨vl, vn, v', ⟨?_, ?_, ?_, ?_, hok, h.apart⟩, ?_⟩, ?_⟩
  · rw [hp2, hleft]; rfl
  · refine ((h.las.keep k0 (fun k hk e => ?_)).keep hkeep (fun k hk e => ?_)).keep hk2 (fun k hk e => ?_)
    · subst e; exact h.apart (hk.trans hgn.symm)
    · exact (h.ne2 e).1 hk
    · exact (h.ne1.1 hk) e
  · have h1 : Row (w.setCell ⟨gn, on + i, none⟩ (.string s)) 9 1 vn (D.write i s).new.length (strs (D.write i s).new) := by
      have := h.new
      rw [hvn] at this ⊢
      have := this.stored i (.string s)
      simpa [Dk.write, strs, List.map_set] using this
    refine ((h1.alloc o).keep hkeep (fun k hk e => ?_)).keep hk2 (fun k hk e => ?_)
    · exact (h.ne2 e).2 hk
    · exact (h.ne1.2.1 hk) e
  · have : chg (D.write i s).cache = chg D.cache ++ [.int .i64 i, .string s] := by simp [Dk.write, chg]
    rw [this]
    simp only [Dk.write, List.length_append, List.length_cons, List.length_nil, Nat.zero_add]
    refine hrow.keep hk2 (fun k hk e => ?_)
    have e' : k = p := e
    rcases hown k hk with h1 | h1
    · exact (h.ne1.2.2 h1) e'
    · omega
  · rintro b (rfl | hb | hb | hb)
    · exact .inl (.inl rfl)
    · exact .inl (.inr (.inl hb))
    · exact .inl (.inr (.inr (.inl hb)))
    · rcases hown b hb with h1 | h1
      · exact .inl (.inr (.inr (.inr h1)))
      · exact .inr (by omega)
  · refine (((k0.mono (G := diskOf p vl vn vc) (fun b _ e => .inr (.inr (.inl (by rw [hgn, e]))))).trans hkeep (fun b hb => .inl (.inr (.inr (.inr hb))))).trans hk2 (fun b hb => .inl (.inl hb)))

set_option maxHeartbeats 1000000 in
theorem write_alive {w : World} {p : Nat} {vl vn vc : Value} {D : Dk} (h : IsDisk w p vl vn vc D) (i : Nat) (hi : i < D.las.length) (b off cap : Nat) (l : List UInt8) (hl : l.length = 512)
    (hb : BytesAt w b off l) (hdead : deadB D = false) (hw : 0 ≤ D.writes ∧ D.writes < 4611686018427387904) (hleft : -4611686018427387904 ≤ D.left ∧ D.left < 4611686018427387904) (hc : D.cache.length < 1099511627776) :
    Calls Tryz.prog 56 #[.pointer (some ⟨p, 0, none⟩), .int .i64 i, .slice (some ⟨b, off, none⟩) 512 cap] w fun e w' => e = .returned .nilIface ∧
      Disk w' (grow (diskOf p vl vn vc) w w') p (D.write i ⟨l.toArray⟩) ∧ Keep (diskOf p vl vn vc) w w' := by
  have hH := Lib.hid h
  have hdn := Lib.hid hdead
  have hok := Lib.hid (h.ok.write (s := ⟨l.toArray⟩) hi (by simpa [ByteArray.size] using hl))
  obtain ⟨gn, on, capn, rfl, hnn, hmn⟩ := h.new.full (by rw [h.same]; exact h.pos)
  obtain ⟨ac, capc, rfl, hcc, hcm⟩ := h.cache.slice
  have hsame := h.same
  have h1 := h.cell 1
  have h2 := h.cell 2
  have h3 := h.cell 3
  have h4 := h.cell 4
  have h5 := h.cell 5
  simp only [List.getElem?_toArray, List.getElem?_cons_zero, List.getElem?_cons_succ] at h1 h2 h3 h4 h5
  have f2 := h.free 2
  have f3 := h.free 3
  have f5 := h.free 5
  have hcn : w.cell? ⟨gn, on + i, none⟩ = some (.string (D.new.getD i default)) := by
    rw [h.new.cellAt i (by omega), strs_get _ _ (by omega)]
  have hfn : w.frozen? ⟨gn, on + i, none⟩ = false := (h.new.there i (by omega)).2
  have hcv := run_string_of_bytes (P := Tryz.prog) hb 35 9 5 512 cap hl Tryz.underlying35 Tryz.underlying5 Tryz.underlying9
  have hne : gn ≠ p := h.ne1.2.1 rfl
  have hoth : ∀ u k, (w.setCell ⟨gn, on + i, none⟩ u).cell? ⟨p, k, none⟩ = w.cell? ⟨p, k, none⟩ := fun u k => World.cell?_setCell_other _ _ _ _ (fun e => hne (congrArg Addr.block e))
  have hps : p < w.heap.size := lt_of_block h.head
  have hhas : hasB D.las.length ↑i = true := by simp [hasB, hi]
  obtain ⟨i0, hi0, hz0, hz1, hz2⟩ := info_parts Tryz.infoC
  have hca : ∀ u, Row (w.setCell ⟨gn, on + i, none⟩ u) 81 2 (.slice ac D.cache.length capc) D.cache.length (chg D.cache) := fun u =>
    h.cache.setCell _ u (fun e => (h.ne2 e).2 (by simp [Value.ownBlock]))
  clear h hdead
  go_enter Tryz.func56, Tryz.ntmps56
  go_wp2_with (first | (go_at_call 49; refine (has_any hH.out _).mono ?_; rintro e w' ⟨rfl, rfl⟩) | (go_at_call 23; refine (dead_any hH.out).mono ?_; rw [hdn.out]; rintro e w' ⟨rfl, rfl⟩) | (at_builtin; go_loud (refine wpList_append_row _ rfl (.tmp 33) (.tmp 37) rfl Tryz.underlying77 hi0 hz0 hz1 hz2 rfl rfl ((hca _).alloc _) rfl (Src.lit Tryz.underlying77 _ _ 1 1 (by simp) rfl ?c1) ?c3 ?c4 ?grow)))
  case c1 => simp [Value.oneCell']
  case c3 => simp [maxLen]; omega
  case c4 => omega
  case grow =>
    intro v' w1 hrow hkeep hown hnil
    have hd := hH.out
    have hs1 : w.heap.size + 1 ≤ w1.heap.size := by have := hkeep.size; simpa using this
    have hpv : ¬ (Value.slice ac D.cache.length capc).ownBlock = some p := fun e => hd.ne1.2.2 e rfl
    have hcell : ∀ k, w1.cell? ⟨p, k, none⟩ = w.cell? ⟨p, k, none⟩ := fun k => by
      rw [hkeep.cell (by simp; omega) hpv, World.cell?_alloc_past _ _ _ (by simpa using hps), hoth]
    have hp1 : w1.heap[p]? = w.heap[p]? := by
      rw [hkeep.block p (by simp; omega) hpv, Below.heap_alloc _ _ _ (by simpa using hps), Below.heap_setCell _ _ _ _ (fun e => hne e.symm)]
    have hfree : ∀ k, w1.frozen? ⟨p, k, none⟩ = false := fun k => by rw [World.frozen?_of_block (w := w) (a := ⟨p, k, none⟩) hp1]; exact hd.free k
    have k2 := (hcell 2).trans h2
    have k3 := (hcell 3).trans h3
    have k4 := (hcell 4).trans h4
    have k5 := (hcell 5).trans h5
    have e2 := hfree 2
    have e3 := hfree 3
    have e5 := hfree 5
    obtain ⟨g', off', cap', rfl, _, _⟩ := hrow.full (by omega)
    have hhead := Lib.hid (hp1.trans hd.head)
    have hR := Lib.hid hrow
    have hK := Lib.hid hkeep
    have hO := Lib.hid hown
    clear hrow hkeep hown hnil hcell hp1 hfree hd hcn hcv hoth hca h1 h2 h3 h4 h5 f2 f3 f5 hfn
    go_wp2
    all_goals go_ret
    · rename_i hlim
      refine ⟨rfl, write_done hH.out i gn on capn ⟨l.toArray⟩ _ _ rfl hR.out hK.out hO.out _ hok.out (D.left - 1) ?_ ?_ ?_ ?_⟩
      · simp [Dk.write, show D.lim = true from hlim]
      · simp
      · exact Keep.setCell (F := fun b => b = p) (Keep.setCell (F := fun b => b = p) (Keep.setCell (F := fun b => b = p) (Keep.refl _ _) _ _ (.inl rfl)) _ _ (.inl rfl)) _ _ (.inl rfl)
      · rw [heap_setCell_at _ (heap_setCell_at _ (heap_setCell_at _ hhead.out))]; rfl
    · rename_i hlim
      refine ⟨rfl, write_done hH.out i gn on capn ⟨l.toArray⟩ _ _ rfl hR.out hK.out hO.out _ hok.out D.left ?_ ?_ ?_ ?_⟩
      · simp [Dk.write, show D.lim = false from hlim]
      · simp
      · exact Keep.setCell (F := fun b => b = p) (Keep.setCell (F := fun b => b = p) (Keep.refl _ _) _ _ (.inl rfl)) _ _ (.inl rfl)
      · rw [heap_setCell_at _ (heap_setCell_at _ hhead.out)]; rfl

abbrev errRange : Value := .iface 47 (.int .i64 1)

set_option maxHeartbeats 400000 in
theorem write_dead {w : World} {p : Nat} {vl vn vc : Value} {D : Dk} (h : IsDisk w p vl vn vc D) (i : Int) (hi : hasB D.las.length i = true) (a : Option Addr) (cap : Nat) (hdead : deadB D = true) :
    Calls Tryz.prog 56 #[.pointer (some ⟨p, 0, none⟩), .int .i64 i, .slice a 512 cap] w fun e w' => e = .returned .nilIface ∧ w = w' := by
  have hH := Lib.hid h
  have hdn := Lib.hid hdead
  clear h hdead
  go_enter Tryz.func56, Tryz.ntmps56
  go_wp2_with (first | (go_at_call 49; refine (has_any hH.out _).mono ?_; rintro e w' ⟨rfl, rfl⟩) | (go_at_call 23; refine (dead_any hH.out).mono ?_; rw [hdn.out]; rintro e w' ⟨rfl, rfl⟩))
  go_ret
  exact ⟨rfl, rfl⟩

set_option maxHeartbeats 400000 in
theorem write_out {w : World} {p : Nat} {vl vn vc : Value} {D : Dk} (h : IsDisk w p vl vn vc D) (i : Int) (hi : hasB D.las.length i = false) (a : Option Addr) (n cap : Nat) :
    Calls Tryz.prog 56 #[.pointer (some ⟨p, 0, none⟩), .int .i64 i, .slice a n cap] w fun e w' => e = .returned errRange ∧ w = w' := by
  have hH := Lib.hid h
  clear h
  go_enter Tryz.func56, Tryz.ntmps56
  go_wp2_with (first | (go_at_call 49; refine (has_any hH.out _).mono ?_; rintro e w' ⟨rfl, rfl⟩))
  go_ret
  exact ⟨rfl, rfl⟩

set_option maxHeartbeats 400000 in
theorem write_len {w : World} {p : Nat} {vl vn vc : Value} {D : Dk} (h : IsDisk w p vl vn vc D) (i : Int) (a : Option Addr) (n cap : Nat) (hn : ((n : Int) != 512) = true) :
    Calls Tryz.prog 56 #[.pointer (some ⟨p, 0, none⟩), .int .i64 i, .slice a n cap] w fun e w' => e = .returned errRange ∧ w = w' := by
  have hH := Lib.hid h
  clear h
  cases hB : hasB D.las.length i
  all_goals
    go_enter Tryz.func56, Tryz.ntmps56
    go_wp2_with (first | (go_at_call 49; refine (has_any hH.out _).mono ?_; rintro e w' ⟨rfl, rfl⟩))
    go_ret
    exact ⟨rfl, rfl⟩

set_option maxHeartbeats 400000 in
theorem write_nil {w : World} (i : Int) (a : Option Addr) (n cap : Nat) :
    Calls Tryz.prog 56 #[.pointer none, .int .i64 i, .slice a n cap] w fun e w' => e = .returned errRange ∧ w = w' := by
  go_enter Tryz.func56, Tryz.ntmps56
  go_wp2_with (first | (go_at_call 49; refine (has_nil _).mono ?_; rintro e w' ⟨rfl, rfl⟩))
  go_ret
  exact ⟨rfl, rfl⟩

end Go.Proofs.YtibmillfankjfaaGreatDoor
