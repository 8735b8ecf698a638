/- What the laws' own helpers of layer 1 do: bytes as a sector; an error told; a sector read. -/
import Derived.Test.YtibmillfankjfaaGreatDoorNew
import Derived.Test.YtibmillfankjfaaGreatDoorErr
import Derived.Test.YtibmillfankjfaaGreatDoorArgs
namespace Go.Proofs.YtibmillfankjfaaGreatDoor
set_option maxRecDepth 100000
open Go.RowKit



def padTo (n : Nat) (l : List UInt8) (k : Nat) : List UInt8 := l.take k ++ List.replicate (n - k) 0

/-- Bytes as a sector. -/
def secOf (n : Nat) (l : List UInt8) : List UInt8 := padTo n l (min l.length n)

theorem secOf_length (n : Nat) (l : List UInt8) : (secOf n l).length = n := by simp [secOf, padTo]; omega

theorem secOf_head (n : Nat) (x : UInt8) (l : List UInt8) (h : 0 < n) : (secOf n (x :: l))[0]? = some x := by
  simp only [secOf, padTo]
  rw [List.getElem?_append_left (by simp; omega), List.getElem?_take, if_pos (by simp; omega)]
  rfl

structure FullAt (w : World) (n : Nat) (l : List UInt8) (g : Nat) (vb : Value) (k : Nat) (wr : World) : Prop where
  row : Row wr 5 1 (.slice (some ⟨g, 0, none⟩) n n) n (bcells (padTo n l k))
  src : Seen wr 1 vb l.length (bcells l)
  keep : Keep (fun _ => False) w wr
  new : w.heap.size ≤ g

theorem FullAt.start {w w1 : World} {n : Nat} {l : List UInt8} {g : Nat} {vb : Value} (h : Row w1 5 1 (.slice (some ⟨g, 0, none⟩) n n) n (madeCells #[Value.int .u8 0] n).toList) (hs : Seen w1 1 vb l.length (bcells l)) (hk : Keep (fun _ => False) w w1) (hg : w.heap.size ≤ g) :
    FullAt w n l g vb 0 w1 := by
  rw [toList_madeCells_one] at h
  exact ⟨by simpa [bcells, padTo] using h, hs, hk, hg⟩

theorem FullAt.step {w wr : World} {n : Nat} {l : List UInt8} {g : Nat} {vb : Value} {k : Nat} (h : FullAt w n l g vb k wr) (hk : k < l.length) (hn : k < n) (hb : ∀ b, vb.ownBlock = some b → b < w.heap.size) :
    FullAt w n l g vb (k + 1) (wr.setCell ⟨g, k, none⟩ (.int .u8 (l[k].toNat : Int))) := by
  refine ⟨?_, h.src.keep (Keep.setCell (F := fun b => b = g) (Keep.refl _ wr) _ _ (.inl rfl)) (fun b hb' _ e => ?_), h.keep.setCell _ _ (.inr h.new), h.new⟩
  · have := h.row.stored k (.int .u8 (l[k].toNat : Int))
    rw [Nat.zero_add] at this
    have e : (bcells (padTo n l k)).set k (.int .u8 (l[k].toNat : Int)) = bcells (padTo n l (k + 1)) := by
      simp only [bcells, padTo]
      rw [← List.map_set]
      congr 1
      have e1 : k - (List.take k l).length = 0 := by simp; omega
      have e2 : n - k = (n - (k + 1)) + 1 := by omega
      rw [List.set_append_right _ _ (by simp; omega), e1, e2, List.replicate_succ, List.set_cons_zero, List.take_succ_eq_append_getElem hk, List.append_assoc]
      rfl
    rw [← e]
    exact this
  · have := hb b hb'; have := h.new; omega

set_option maxHeartbeats 1000000 in
set_option maxRecDepth 100000 in
theorem full_any {w : World} {vb : Value} {l : List UInt8} (h : Seen w 1 vb l.length (bcells l)) (hb : ∀ b, vb.ownBlock = some b → b < w.heap.size) :
    Calls Tryz.prog 11 #[vb] w fun e w' => e = .returned (.slice (some ⟨w.heap.size, 0, none⟩) 512 512) ∧ Row w' 5 1 (.slice (some ⟨w.heap.size, 0, none⟩) 512 512) 512 (bcells (secOf 512 l)) ∧ Keep (fun _ => False) w w' ∧ w.heap.size < w'.heap.size := by
  have HS := Lib.hid h
  have HB := Lib.hid hb
  obtain ⟨i0, hi0, hz0, hz1, hz2⟩ := info_parts Tryz.infoB
  obtain ⟨_, ab, cap, rfl, hlc, hcm, _⟩ := h
  unfold maxLen at hcm
  clear hb
  go_enter Tryz.func11, Tryz.ntmps11
  go_wp2_with (at_make; go_loud (refine wpList_make_row rfl (.const (.int .i64 512)) (.const (.int .i64 512)) rfl Tryz.underlying35 hi0 hz0 hz1 hz2 512 rfl rfl rfl rfl (by omega) (by simp [maxLen]) ?mk))
  case mk =>
    intro w1 hrow hk hlt
    have H0 := Lib.hid (FullAt.start (n := 512) hrow (HS.out.keep hk (fun _ _ _ h => h)) hk (Nat.le_refl _))
    clear hrow hk
    go_wp2
    go_loopw [4] (fun i wr => ∃ k : Nat, k ≤ l.length ∧ k ≤ 512 ∧ i = .int .i64 k ∧ FullAt w 512 l w.heap.size (.slice ab l.length cap) k wr) (fun i _ => 512 - (intOf i).toNat)
    case atStart => exact ⟨0, by omega, by omega, rfl, H0.out⟩
    case round =>
      obtain ⟨k, hk1, hk2, rfl, hF⟩ := hrel
      have HF := Lib.hid hF
      clear hF
      by_cases t1 : k < l.length
      · by_cases t2 : k < 512
        · obtain ⟨_, _, _, hv, _, _, hc⟩ := HF.out.src
          simp only [Value.slice.injEq] at hv
          obtain ⟨rfl, _, rfl⟩ := hv
          obtain ⟨gb, ob, rfl, hgb, hcb⟩ := hc.resolve_left (by omega)
          have c0 : wr.cell? ⟨gb, ob + k, none⟩ = some (.int .u8 (l[k].toNat : Int)) := hcb k _ (by simp [bcells, List.getElem?_eq_getElem t1])
          have hth := HF.out.row.there k (by omega)
          simp only [Nat.zero_add] at hth
          obtain ⟨c1, hc1⟩ := Option.isSome_iff_exists.1 hth.1
          have f1 := hth.2
          have HST := Lib.hid (HF.out.step t1 t2 HB.out)
          clear hc hcb hth
          generalize l[k] = byt at *
          go_wp2
          go_roundw
          case rel => exact ⟨k + 1, by omega, by omega, by go_num, HST.out⟩
          case measure => simp [intOf]; omega
        · have e : padTo 512 l k = secOf 512 l := by simp only [secOf]; congr 1; omega
          have HE := Lib.hid e
          clear e
          go_wp2
          go_ret
          exact ⟨rfl, by rw [← HE.out]; exact HF.out.row, HF.out.keep, HF.out.row.lt rfl⟩
      · have e : padTo 512 l k = secOf 512 l := by simp only [secOf]; congr 1; omega
        have HE := Lib.hid e
        clear e
        go_wp2
        go_ret
        exact ⟨rfl, by rw [← HE.out]; exact HF.out.row, HF.out.keep, HF.out.row.lt rfl⟩

/-- Is(err, e), both the same. -/
theorem is_same {w : World} (a : Int) (ha : ((a : Int) == 0) = false) :
    Calls Tryz.prog 15 #[apiErr a, .int .i64 a] w fun e w' => e = .returned (.bool true) ∧ w = w' := by
  simp only [apiErr]
  go_enter Tryz.func15, Tryz.ntmps15
  go_wp2_with (go_at_call 37; refine (errIs_same a _).mono ?_; rintro e w' ⟨rfl, rfl⟩)
  go_ret
  exact ⟨rfl, rfl⟩

def secStr (l : List UInt8) : ByteArray := ⟨(secOf 512 l).toArray⟩

theorem secStr_size (l : List UInt8) : (secStr l).size = 512 := by
  simp only [secStr, ByteArray.size]
  rw [List.size_toArray, secOf_length]

theorem byteCells_sec (l : List UInt8) : byteCells (secStr l) = bcells (secOf 512 l) := rfl

/-- Reading a sector whose bytes are known. -/
theorem read_sec {w : World} {p : Nat} {vl vn vc : Value} {D : Dk} (h : IsDisk w p vl vn vc D) (i : Nat) (hi : i < D.las.length) (s : ByteArray) (hs : D.new.getD i default = s) :
    Calls Tryz.prog 36 #[.pointer (some ⟨p, 0, none⟩), .int .i64 i] w fun e w' => ∃ cap, e = .returned (.tuple #[.slice (some ⟨w.heap.size, 0, none⟩) 512 cap, .nilIface]) ∧
      Row w' 5 1 (.slice (some ⟨w.heap.size, 0, none⟩) 512 cap) 512 (byteCells s) ∧ Keep (fun _ => False) w w' ∧ w'.heap.size = w.heap.size + 1 := by
  have hz : s.size = 512 := by
    subst hs
    have hl : i < D.new.length := by rw [h.same]; exact hi
    rw [List.getD_eq_getElem?_getD, List.getElem?_eq_getElem hl]
    exact h.ok.snew _ (List.getElem_mem _)
  refine (read_any h i hi (by rw [hs, hz]; simp [maxLen])).mono ?_
  rintro e w' ⟨cap, h1, h2, h3, h4⟩
  rw [hs, hz] at h1 h2
  exact ⟨cap, h1, h2, h3, h4⟩

end Go.Proofs.YtibmillfankjfaaGreatDoor
