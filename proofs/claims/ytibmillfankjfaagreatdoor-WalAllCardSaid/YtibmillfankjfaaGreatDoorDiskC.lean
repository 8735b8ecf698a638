/- What reading a sector, a limit and a flush do, at every disk. -/
import Derived.Test.YtibmillfankjfaaGreatDoorDiskB
namespace Go.Proofs.YtibmillfankjfaaGreatDoor
set_option maxRecDepth 100000
open Go.RowKit

/-- '[]byte(s)': a new row. -/
theorem run_bytes_row {P : Program} (w : World) (src dst e : TypeId) (s : ByteArray) (hs : P.underlying src = some .string) (hd : P.underlying dst = some (.slice e)) (he : P.underlying e = some (.int .u8)) (hm : s.size ≤ maxLen) :
    ∃ cap w', (convert src dst (.string s)).run P w = .ok (.slice (some ⟨w.heap.size, 0, none⟩) s.size cap) w' ∧ Row w' e 1 (.slice (some ⟨w.heap.size, 0, none⟩) s.size cap) s.size (byteCells s) ∧ Keep (fun _ => False) w w' ∧
      w'.heap.size = w.heap.size + 1 := by
  refine ⟨_, _, run_bytes_of_string w src dst e s hs hd he, ⟨by rw [byteCells_length, Nat.mul_one], .inr ⟨w.heap.size, 0, _, _, _, _, rfl, heap_alloc_new w.drew _, grownCap_ge w s.size 0 e, grownCap_le_maxLen w s.size 0 e hm, ?_, .inr (.inl ?_), ?_⟩⟩, ((Keep.refl _ w).drew).alloc _, by simp⟩
  · have := grownCap_ge w s.size 0 e
    simp only [bytesRow, Array.size_append, Array.size_map, Array.size_replicate, Nat.zero_add, Nat.mul_one]
    have h2 : s.data.size = s.size := rfl
    omega
  · have := grownCap_ge w s.size 0 e
    simp only [bytesRow, Array.size_append, Array.size_map, Array.size_replicate, Nat.zero_add, Nat.mul_one]
    have h2 : s.data.size = s.size := rfl
    omega
  · have h2 : (byteCells s).length = s.size := byteCells_length s
    simp only [bytesRow, Array.toList_append, Array.toList_map, List.drop_zero, Nat.mul_one]
    exact List.take_left' h2

set_option maxHeartbeats 400000 in
theorem read_any {w : World} {p : Nat} {vl vn vc : Value} {D : Dk} (h : IsDisk w p vl vn vc D) (i : Nat) (hi : i < D.las.length) (hm : (D.new.getD i default).size ≤ maxLen) :
    Calls Tryz.prog 36 #[.pointer (some ⟨p, 0, none⟩), .int .i64 i] w fun e w' => ∃ cap, e = .returned (.tuple #[.slice (some ⟨w.heap.size, 0, none⟩) (D.new.getD i default).size cap, .nilIface]) ∧
      Row w' 5 1 (.slice (some ⟨w.heap.size, 0, none⟩) (D.new.getD i default).size cap) (D.new.getD i default).size (byteCells (D.new.getD i default)) ∧ Keep (fun _ => False) w w' ∧ w'.heap.size = w.heap.size + 1 := by
  have hH := Lib.hid h
  obtain ⟨gn, on, capn, rfl, hnn, hmn⟩ := h.new.full (by rw [h.same]; exact h.pos)
  have hsame := h.same
  have h1 := h.cell 1
  simp only [List.getElem?_toArray, List.getElem?_cons_zero, List.getElem?_cons_succ] at h1
  have hcn : w.cell? ⟨gn, on + i, none⟩ = some (.string (D.new.getD i default)) := by
    rw [h.new.cellAt i (by omega), strs_get _ _ (by omega)]
  have hhas : hasB D.las.length ↑i = true := by simp [hasB, hi]
  generalize hs : D.new.getD i default = s at hcn hm ⊢
  obtain ⟨cap, w', hr, hrow, hk, hsz⟩ := run_bytes_row (P := Tryz.prog) w 9 35 5 s Tryz.underlying9 Tryz.underlying35 Tryz.underlying5 hm
  have hR := Lib.hid hrow
  have hK := Lib.hid hk
  have hS := Lib.hid hsz
  clear h hs hrow hk hsz
  go_enter Tryz.func36, Tryz.ntmps36
  go_wp2_with (first | (go_at_call 49; refine (has_any hH.out _).mono ?_; rintro e w' ⟨rfl, rfl⟩))
  go_ret2
  exact ⟨cap, rfl, hR.out, hK.out, hS.out⟩

set_option maxHeartbeats 400000 in
theorem read_out {w : World} {p : Nat} {vl vn vc : Value} {D : Dk} (h : IsDisk w p vl vn vc D) (i : Int) (hi : hasB D.las.length i = false) :
    Calls Tryz.prog 36 #[.pointer (some ⟨p, 0, none⟩), .int .i64 i] w fun e w' => e = .returned (.tuple #[.slice none 0 0, errRange]) ∧ w = w' := by
  have hH := Lib.hid h
  clear h
  go_enter Tryz.func36, Tryz.ntmps36
  go_wp2_with (first | (go_at_call 49; refine (has_any hH.out _).mono ?_; rintro e w' ⟨rfl, rfl⟩))
  go_ret2
  exact ⟨rfl, rfl⟩

theorem read_nil {w : World} (i : Int) :
    Calls Tryz.prog 36 #[.pointer none, .int .i64 i] w fun e w' => e = .returned (.tuple #[.slice none 0 0, errRange]) ∧ w = w' := by
  go_enter Tryz.func36, Tryz.ntmps36
  go_wp2_with (first | (go_at_call 49; refine (has_nil _).mono ?_; rintro e w' ⟨rfl, rfl⟩))
  go_ret2
  exact ⟨rfl, rfl⟩

def Dk.limit (D : Dk) (n : Int) : Dk := { D with lim := decide (0 ≤ n), left := max n 0 }

theorem IsDisk.head_only {w w' : World} {p : Nat} {vl vn vc : Value} {D D' : Dk} (h : IsDisk w p vl vn vc D) (k : Keep (fun b => b = p) w w') (h1 : D'.las = D.las) (h2 : D'.new = D.new) (h3 : D'.cache = D.cache)
    (hp : w'.heap[p]? = some (.cells #[vl, vn, vc, .int .i64 D'.writes, .bool D'.lim, .int .i64 D'.left] 79 (0, 0))) : IsDisk w' p vl vn vc D' :=
  ⟨hp, by rw [h1]; exact h.las.keep k (fun _ hb => h.ne1.1 hb), by rw [h2]; exact h.new.keep k (fun _ hb => h.ne1.2.1 hb), by rw [h3]; exact h.cache.keep k (fun _ hb => h.ne1.2.2 hb), ⟨by rw [h1, h2]; exact h.ok.same, by rw [h1]; exact h.ok.pos, by rw [h3, h1]; exact h.ok.inr, by rw [h1]; exact h.ok.slas, by rw [h2]; exact h.ok.snew⟩, h.apart⟩

def putAll (l : List ByteArray) (c : List (Nat × ByteArray)) : List ByteArray := c.foldl (fun l x => l.set x.1 x.2) l

theorem putAll_length (c : List (Nat × ByteArray)) : ∀ l : List ByteArray, (putAll l c).length = l.length := by
  induction c with
  | nil => intro l; rfl
  | cons x c ih => intro l; simp only [putAll, List.foldl_cons]; rw [← putAll, ih]; simp

theorem putAll_snoc (l : List ByteArray) (c : List (Nat × ByteArray)) (x : Nat × ByteArray) : putAll l (c ++ [x]) = (putAll l c).set x.1 x.2 := by simp [putAll]

theorem putAll_take (l : List ByteArray) (c : List (Nat × ByteArray)) (k : Nat) (h : k < c.length) : putAll l (c.take (k + 1)) = (putAll l (c.take k)).set c[k].1 c[k].2 := by
  rw [List.take_succ_eq_append_getElem h, putAll_snoc]

theorem putAll_size (c : List (Nat × ByteArray)) : ∀ l : List ByteArray, (∀ s ∈ l, s.size = 512) → (∀ x ∈ c, x.2.size = 512) → ∀ s ∈ putAll l c, s.size = 512 := by
  induction c with
  | nil => intro l h _; exact h
  | cons x c ih =>
    intro l h hc
    refine ih (l.set x.1 x.2) (fun s hs => ?_) (fun y hy => hc y (List.mem_cons_of_mem _ hy))
    rcases List.mem_or_eq_of_mem_set hs with h1 | rfl
    · exact h s h1
    · exact hc x (List.mem_cons_self ..)

theorem chg_get (c : List (Nat × ByteArray)) : ∀ (k : Nat) (h : k < c.length), (chg c)[2 * k]? = some (.int .i64 c[k].1) ∧ (chg c)[2 * k + 1]? = some (.string c[k].2) := by
  induction c with
  | nil => intro k h; simp at h
  | cons x c ih =>
    intro k h
    have e : chg (x :: c) = .int .i64 x.1 :: .string x.2 :: chg c := rfl
    rw [e]
    cases k with
    | zero => exact ⟨rfl, rfl⟩
    | succ k =>
      have := ih k (by simpa using h)
      rw [show 2 * (k + 1) = (2 * k + 1) + 1 by omega]
      simpa using this

def Dk.lasted (D : Dk) (k : Nat) : Dk := { D with las := putAll D.las (D.cache.take k) }
def Dk.flush (D : Dk) : Dk := { D with las := putAll D.las D.cache, cache := [] }

theorem Dk.Ok.lasted {D : Dk} (h : D.Ok) (k : Nat) : (D.lasted k).Ok := by
  have hl : (D.lasted k).las.length = D.las.length := putAll_length _ _
  refine ⟨by rw [hl]; exact h.same, by rw [hl]; exact h.pos, fun x hx => by rw [hl]; exact h.inr x hx, ?_, h.snew⟩
  exact putAll_size _ _ h.slas (fun x hx => (h.inr x (List.mem_of_mem_take hx)).2)

theorem flush_dead {w : World} {p : Nat} {vl vn vc : Value} {D : Dk} (h : IsDisk w p vl vn vc D) (hd : deadB D = true) :
    Calls Tryz.prog 19 #[.pointer (some ⟨p, 0, none⟩)] w fun e w' => e = .returned (.tuple #[]) ∧ w = w' := by
  have hH := Lib.hid h
  have hD := Lib.hid hd
  clear h hd
  go_enter Tryz.func19, Tryz.ntmps19
  go_wp2_with (first | (go_at_call 23; refine (dead_any hH.out).mono ?_; rw [hD.out]; rintro e w' ⟨rfl, rfl⟩))
  all_goals (refine bodyPost_ret (results_none rfl _ _ _) rfl ?_; exact ⟨rfl, rfl⟩)

theorem flush_nil {w : World} :
    Calls Tryz.prog 19 #[.pointer none] w fun e w' => e = .returned (.tuple #[]) ∧ w = w' := by
  go_enter Tryz.func19, Tryz.ntmps19
  go_wp2_with (first | (go_at_call 23; refine (dead_nil).mono ?_; rintro e w' ⟨rfl, rfl⟩))
  all_goals (refine bodyPost_ret (results_none rfl _ _ _) rfl ?_; exact ⟨rfl, rfl⟩)

/-- The world behind k rounds of the flush. -/
def FlushAt (w : World) (p : Nat) (vl vn vc : Value) (D : Dk) (k : Nat) (wr : World) : Prop :=
  IsDisk wr p vl vn vc (D.lasted k) ∧ Keep (fun b => vl.ownBlock = some b) w wr

theorem flush_step {w wr : World} {p : Nat} {vl vn vc : Value} {D : Dk} {k : Nat} (hok : D.Ok) (hF : FlushAt w p vl vn vc D k wr) (hk : k < D.cache.length) {gl ol n capl : Nat} (hvl : vl = .slice (some ⟨gl, ol, none⟩) n capl)
    {i : Nat} {s : ByteArray} (hi : D.cache[k].1 = i) (hs : D.cache[k].2 = s) (o : Obj) : FlushAt w p vl vn vc D (k + 1) ((wr.setCell ⟨gl, ol + i, none⟩ (.string s)).alloc o).drew := by
  obtain ⟨h, hK⟩ := hF
  have hgl : vl.ownBlock = some gl := by rw [hvl]; rfl
  have e1 : (D.lasted (k + 1)).las = (D.lasted k).las.set i s := by simp only [Dk.lasted]; rw [putAll_take _ _ _ hk, hi, hs]
  have hgs : gl < wr.heap.size := h.las.lt hgl
  refine ⟨⟨?_, ?_, ?_, ?_, hok.lasted _, h.apart⟩, ((hK.setCell _ _ (.inl hgl)).alloc o).drew⟩
  · show ((wr.setCell _ _).alloc o).heap[p]? = _
    rw [Below.heap_alloc _ _ _ (by simpa using lt_of_block h.head), Below.heap_setCell _ _ _ _ (fun e => h.ne1.1 hgl e.symm)]
    exact h.head
  · have hrow : Row (wr.setCell ⟨gl, ol + i, none⟩ (.string s)) 9 1 vl (D.lasted k).las.length (strs ((D.lasted k).las.set i s)) := by
      have := h.las
      rw [hvl] at this ⊢
      obtain ⟨a', c', hv, _⟩ := this.slice
      simp only [Value.slice.injEq] at hv
      obtain ⟨_, rfl, rfl⟩ := hv
      have := this.stored i (.string s)
      simpa [strs, List.map_set] using this
    rw [e1, List.length_set]
    exact (hrow.alloc o).drew
  · exact ((h.new.setCell _ _ (fun e => h.apart (hgl.trans e.symm))).alloc o).drew
  · exact ((h.cache.setCell _ _ (fun e => (h.ne2 e).1 hgl)).alloc o).drew

set_option maxHeartbeats 1000000 in
theorem flush_any {w : World} {p : Nat} {vl vn vc : Value} {D : Dk} (h : IsDisk w p vl vn vc D) (hd : deadB D = false) :
    Calls Tryz.prog 19 #[.pointer (some ⟨p, 0, none⟩)] w fun e w' => e = .returned (.tuple #[]) ∧ IsDisk w' p vl vn (.slice none 0 0) D.flush ∧ Keep (diskOf p vl vn vc) w w' := by
  have hH := Lib.hid h
  have hD := Lib.hid hd
  obtain ⟨ac, capc, rfl, hcc, hcm⟩ := h.cache.slice
  have h2 := h.cell 2
  simp only [List.getElem?_toArray, List.getElem?_cons_zero, List.getElem?_cons_succ] at h2
  unfold maxLen at hcm
  clear h hd
  go_enter Tryz.func19, Tryz.ntmps19
  go_wp2_with (first | (go_at_call 23; refine (dead_any hH.out).mono ?_; rw [hD.out]; rintro e w' ⟨rfl, rfl⟩))
  go_loopw [11] (fun i wr => ∃ k : Nat, k ≤ D.cache.length ∧ i = .int .i64 k ∧ FlushAt w p vl vn (.slice ac D.cache.length capc) D k wr) (fun i _ => D.cache.length - (intOf i).toNat)
  case atStart => exact ⟨0, Nat.zero_le _, rfl, by simpa [Dk.lasted, putAll] using hH.out, Keep.refl _ _⟩
  case round =>
    obtain ⟨k, hk, rfl, hF⟩ := hrel
    have hd := hF.1
    have HF := Lib.hid hF
    clear hF
    have hp : p < wr.heap.size := lt_of_block hd.head
    by_cases hlt : k < D.cache.length
    · have hcache : Row wr 81 2 (.slice ac D.cache.length capc) D.cache.length (chg D.cache) := hd.cache
      obtain ⟨gc, oc, _, hv, _, _⟩ := hcache.full (by omega)
      simp only [Value.slice.injEq, true_and] at hv
      obtain ⟨rfl, rfl⟩ := hv
      have hx := (hd.ok.inr D.cache[k] (List.getElem_mem _)).1
      obtain ⟨q1, q2⟩ := chg_get D.cache k hlt
      have c0 : wr.cell? ⟨gc, oc + k * 2, none⟩ = some (.int .i64 D.cache[k].1) := by rw [hcache.cellAt (k * 2) (by omega), Nat.mul_comm k 2, q1]
      have c1 : wr.cell? ⟨gc, oc + k * 2 + 1, none⟩ = some (.string D.cache[k].2) := by rw [Nat.add_assoc, hcache.cellAt (k * 2 + 1) (by omega), Nat.mul_comm k 2, q2]
      obtain ⟨gl, ol, capl, rfl, hll, hlm⟩ := hd.las.full hd.pos
      have c2 := hd.cell 0
      simp only [List.getElem?_toArray, List.getElem?_cons_zero] at c2
      have hgl : gl < wr.heap.size := hd.las.lt (by simp [Value.ownBlock])
      have c3 : wr.cell? ⟨gl, ol + D.cache[k].1, none⟩ = some (.string ((D.lasted k).las.getD D.cache[k].1 default)) := by
        rw [hd.las.cellAt D.cache[k].1 (by omega), strs_get _ _ hx]
      have c4 := (hd.las.there D.cache[k].1 (by omega)).2
      unfold maxLen at hlm
      have HQ := Lib.hid hx
      generalize hat : D.cache[k].1 = at' at *
      generalize hsec : D.cache[k].2 = sec at *
      have HA := Lib.hid hat
      have HS := Lib.hid hsec
      clear hat hsec
      clear q1 q2 hcache
      go_wp2
      go_region
      all_goals go_wp2
      go_roundw
      case rel => exact ⟨k + 1, by omega, by go_num, flush_step hH.out.ok HF.out hlt rfl HA.out HS.out _⟩
      case measure => simp [intOf]; omega
    · have k2 := hd.cell 2
      simp only [List.getElem?_toArray, List.getElem?_cons_zero, List.getElem?_cons_succ] at k2
      have e2 := hd.free 2
      have HD := Lib.hid hd
      clear hd
      go_wp2
      go_end0
      obtain rfl : k = D.cache.length := by omega
      refine ⟨rfl, ?_, ?_⟩
      · have hd := HD.out
        refine ⟨heap_setCell_at _ hd.head, ?_, ?_, Row.nil _ _ _, ?_, hd.apart⟩
        · have := hd.las.setCell ⟨p, 2, none⟩ (.slice none 0 0) (fun e => hd.ne1.1 e rfl)
          simpa [Dk.lasted, Dk.flush] using this
        · exact hd.new.setCell ⟨p, 2, none⟩ (.slice none 0 0) (fun e => hd.ne1.2.1 e rfl)
        · have := hd.ok
          refine ⟨by simpa [Dk.lasted, Dk.flush] using this.same, by simpa [Dk.lasted, Dk.flush] using this.pos, by simp [Dk.flush], by simpa [Dk.lasted, Dk.flush] using this.slas, this.snew⟩
      · exact (HF.out.2.mono (fun b _ hb => .inr (.inl hb))).setCell _ _ (.inl (.inl rfl))

theorem Tryz.infoS : (Tryz.prog.info? 9).map (fun i => (i.zero, i.size, i.bytes)) = some (some (.string ⟨#[]⟩), 1, 16) := by kernel_rfl


theorem strs_one (l : List ByteArray) : ∀ u ∈ strs l, u.oneCell' = true := by
  intro u hu
  obtain ⟨x, _, rfl⟩ := List.mem_map.1 hu
  rfl

set_option maxHeartbeats 400000 in
theorem clone_any {w : World} {v : Value} {l : List ByteArray} (h : Row w 9 1 v l.length (strs l)) (hb : l.length ≤ 1099511627776) :
    Calls Tryz.prog 35 #[v] w fun e w' => ∃ v', e = .returned v' ∧ Row w' 9 1 v' l.length (strs l) ∧ Keep (fun _ => False) w w' ∧ (∀ b, v'.ownBlock = some b → w.heap.size ≤ b ∧ b < w'.heap.size) := by
  have HR := Lib.hid h
  obtain ⟨a, cap, rfl, _, hcm⟩ := h.slice
  obtain ⟨i0, hi0, hz0, hz1, hz2⟩ := info_parts Tryz.infoS
  have hnil := fun (W : World) (a : Option Addr) (n c : Nat) => Lib.run_eql_slice_nil (P := Tryz.prog) W 49 9 a n c 0 0 Tryz.underlying49
  by_cases hn : (a = none)
  · subst hn
    have hl : l = [] := by
      rcases h.2 with ⟨h1, h2⟩ | ⟨g, off, cap, cur, lo, hi, h1, _⟩
      · exact List.eq_nil_of_length_eq_zero h2
      · simp at h1
    subst hl
    clear h
    go_enter Tryz.func35, Tryz.ntmps35
    go_wp2
    go_ret
    exact ⟨_, rfl, Row.nil _ _ _, Keep.refl _ _, by simp [Value.ownBlock]⟩
  · obtain ⟨a, rfl⟩ := Option.ne_none_iff_exists'.1 hn
    clear h hn
    go_enter Tryz.func35, Tryz.ntmps35
    go_wp2_with (at_builtin; go_loud (refine wpList_append_row _ rfl (.tmp 5) (.tmp 6) rfl Tryz.underlying49 hi0 hz0 hz1 hz2 rfl rfl (v := .slice (some ⟨w.heap.size, 0, none⟩) 0 0) (n := 0) (xs := []) ?c1 rfl ((HR.out.alloc _).src Tryz.underlying49 ?c2) ?c3 ?c4 ?grow))
    case c1 => exact Row.made #[] _ 0 rfl (by simp [maxLen]) rfl
    case c2 => exact strs_one l
    case c3 => simp [maxLen]; omega
    case c4 => omega
    case grow =>
      intro v' w1 hrow hk hown hnn
      have hr := Lib.hid hrow
      have hk' := Lib.hid hk
      have ho := Lib.hid hown
      clear hrow hk hown hnn
      go_wp2
      go_ret
      refine ⟨v', rfl, hr.out, ((Keep.refl _ w).alloc _).trans hk'.out (fun i hi => .inr ?_), fun b hb => ?_⟩
      · simp [Value.ownBlock] at hi; omega
      · have hs := hk'.out.size
        simp only [World.size_alloc] at hs
        rcases ho.out b hb with h1 | h1
        · simp [Value.ownBlock] at h1; omega
        · omega

/-- A new disk over these sectors. -/
def Dk.fresh (l : List ByteArray) : Dk := ⟨l, l, [], 0, false, 0⟩

set_option maxHeartbeats 400000 in
theorem holding_any {w : World} {v : Value} {l : List ByteArray} (h : Row w 9 1 v l.length (strs l)) (hb : l.length ≤ 1099511627776) (hpos : 0 < l.length) (hsz : ∀ s ∈ l, s.size = 512) :
    Calls Tryz.prog 16 #[v] w fun e w' => ∃ p vn, e = .returned (.pointer (some ⟨p, 0, none⟩)) ∧ IsDisk w' p v vn (.slice none 0 0) (Dk.fresh l) ∧ Keep (fun _ => False) w w' ∧
      (∀ b, b = p ∨ vn.ownBlock = some b → w.heap.size ≤ b ∧ b < w'.heap.size) := by
  have HR := Lib.hid h
  obtain ⟨gv, ov, cap, rfl, _, hcm⟩ := h.full hpos
  clear h
  go_enter Tryz.func16, Tryz.ntmps16
  go_wp2_with (go_at_call 35; refine (clone_any HR.out hb).mono ?_; rintro e w1 ⟨vn, rfl, hrow, hk, hown⟩; obtain ⟨gn, on, capn, rfl, _, hcn⟩ := hrow.full hpos; have hR := Lib.hid hrow; have hK := Lib.hid hk; have hO := Lib.hid hown; clear hrow hk hown)
  go_ret
  have hgn := hO.out gn rfl
  have hk := hK.out.size
  refine ⟨w1.heap.size, _, rfl, ⟨heap_alloc_new w1 _, (HR.out.keep hK.out (fun _ _ h => h)).alloc _, hR.out.alloc _, Row.nil _ _ _, ⟨rfl, hpos, by simp [Dk.fresh], hsz, hsz⟩, ?_⟩, hK.out.alloc _, ?_⟩
  · have := HR.out.lt (k := gv) rfl
    simp [Value.ownBlock]; omega
  · rintro b (rfl | hb)
    · exact ⟨hk, by simp⟩
    · have := hO.out b hb
      exact ⟨this.1, by simp; omega⟩

end Go.Proofs.YtibmillfankjfaaGreatDoor
