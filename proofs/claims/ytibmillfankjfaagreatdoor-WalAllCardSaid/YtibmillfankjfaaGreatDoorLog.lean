/- A log in memory; which sectors are home, what waits, opening. -/
import Derived.Test.YtibmillfankjfaaGreatDoorLogged
import Derived.Test.YtibmillfankjfaaGreatDoorErr
namespace Go.Proofs.YtibmillfankjfaaGreatDoor
open Go.RowKit
set_option maxRecDepth 100000

/-- What a log holds. -/
structure LogS where
  D : Dk
  wait : Grp
  mark : Grp
  lost : Grp

/-- All keys are home. -/
def GIn (D : Dk) (g : Grp) : Prop := ∀ x ∈ g, 48 ≤ x.1 ∧ x.1 < D.las.length

structure LogS.Ok (S : LogS) (n : Nat) : Prop where
  len : 128 ≤ S.D.las.length
  len2 : S.D.las.length ≤ 4096
  wait : GIn S.D S.wait
  mark : GIn S.D S.mark
  wlen : S.wait.length ≤ 40
  mlen : S.mark.length ≤ 40
  llen : S.lost.length ≤ n

structure IsLog (w : World) (F : Nat → Prop) (p q a b c : Nat) (S : LogS) (n : Nat) : Prop where
  head : w.heap[q]? = some (.cells #[.pointer (some ⟨p, 0, none⟩), .map (some a), .map (some b), .map (some c)] 60 (0, 0))
  disk : DiskAt w F p S.D n
  wait : IsGrp w a S.wait
  mark : IsGrp w b S.mark
  lost : IsGrp w c S.lost
  ab : a ≠ b
  ac : a ≠ c
  bc : b ≠ c
  fq : ¬ F q
  fa : ¬ F a
  fb : ¬ F b
  fc : ¬ F c
  ok : S.Ok n

theorem IsLog.cell {w : World} {F : Nat → Prop} {p q a b c : Nat} {S : LogS} {n : Nat} (h : IsLog w F p q a b c S n) (i : Nat) :
    w.cell? ⟨q, i, none⟩ = (#[.pointer (some ⟨p, 0, none⟩), .map (some a), .map (some b), .map (some c)] : Array Value)[i]? := cell_of_row _ _ _ _ _ _ h.head

theorem IsLog.free {w : World} {F : Nat → Prop} {p q a b c : Nat} {S : LogS} {n : Nat} (h : IsLog w F p q a b c S n) (i : Nat) : w.frozen? ⟨q, i, none⟩ = false := frozen_of_row _ _ _ _ _ h.head

theorem IsLog.qa {w : World} {F : Nat → Prop} {p q a b c : Nat} {S : LogS} {n : Nat} (h : IsLog w F p q a b c S n) : q ≠ a ∧ q ≠ b ∧ q ≠ c :=
  ⟨fun e => h.wait.notCells (e ▸ h.head), fun e => h.mark.notCells (e ▸ h.head), fun e => h.lost.notCells (e ▸ h.head)⟩

/-- The blocks of a log. -/
def logOf (F : Nat → Prop) (q a b c : Nat) : Nat → Prop := fun x => F x ∨ x = q ∨ x = a ∨ x = b ∨ x = c

theorem IsLog.keep {G : Nat → Prop} {w w' : World} {F : Nat → Prop} {p q a b c : Nat} {S : LogS} {n : Nat} (h : IsLog w F p q a b c S n) (k : Keep G w w') (hG : ∀ x, logOf F q a b c x → ¬ G x) : IsLog w' F p q a b c S n :=
  ⟨(k.block q (lt_of_block h.head) (hG q (.inr (.inl rfl)))).trans h.head, h.disk.keep k (fun x hx => hG x (.inl hx)), h.wait.keep k (hG a (.inr (.inr (.inl rfl)))), h.mark.keep k (hG b (.inr (.inr (.inr (.inl rfl))))), h.lost.keep k (hG c (.inr (.inr (.inr (.inr rfl))))),
    h.ab, h.ac, h.bc, h.fq, h.fa, h.fb, h.fc, h.ok⟩

theorem IsLog.keep0 {w w' : World} {F : Nat → Prop} {p q a b c : Nat} {S : LogS} {n : Nat} (h : IsLog w F p q a b c S n) (k : Keep (fun _ => False) w w') : IsLog w' F p q a b c S n := h.keep k (fun _ _ h => h)

theorem IsLog.lt {w : World} {F : Nat → Prop} {p q a b c : Nat} {S : LogS} {n : Nat} (h : IsLog w F p q a b c S n) : ∀ x, logOf F q a b c x → x < w.heap.size := by
  rintro x (hx | rfl | rfl | rfl | rfl)
  · exact h.disk.lt x hx
  · exact lt_of_block h.head
  · exact h.wait.lt
  · exact h.mark.lt
  · exact h.lost.lt

set_option maxHeartbeats 1000000 in
theorem lhas_any {w : World} {F : Nat → Prop} {p q a b c : Nat} {S : LogS} {n : Nat} (h : IsLog w F p q a b c S n) (i : Int) :
    Calls Tryz.prog 32 #[.pointer (some ⟨q, 0, none⟩), .int .i64 i] w fun e w' => e = .returned (.bool (homeB S.D.las.length i)) ∧ w = w' := by
  have c0 := h.cell 0
  simp only [List.getElem?_toArray, List.getElem?_cons_zero] at c0
  have HD := Lib.hid h.disk
  clear h
  go_enter Tryz.func32, Tryz.ntmps32
  go_wp2_with (go_at_call 42; refine (isHome_at HD.out i).mono ?_; rintro e w' ⟨rfl, rfl⟩)
  go_ret
  exact ⟨rfl, rfl⟩

theorem lhas_nil {w : World} (i : Int) :
    Calls Tryz.prog 32 #[.pointer none, .int .i64 i] w fun e w' => e = .returned (.bool false) ∧ w = w' := by
  go_enter Tryz.func32, Tryz.ntmps32
  go_wp2
  go_ret
  exact ⟨rfl, rfl⟩

set_option maxHeartbeats 1000000 in
theorem lwait_any {w : World} {F : Nat → Prop} {p q a b c : Nat} {S : LogS} {n : Nat} (h : IsLog w F p q a b c S n) :
    Calls Tryz.prog 30 #[.pointer (some ⟨q, 0, none⟩)] w fun e w' => e = .returned (.int .i64 (S.wait.length : Int)) ∧ w = w' := by
  have c0 := h.cell 1
  simp only [List.getElem?_toArray, List.getElem?_cons_zero, List.getElem?_cons_succ] at c0
  have HG := Lib.hid h.wait
  clear h
  go_enter Tryz.func30, Tryz.ntmps30
  go_wp2_with (refine wpList_len_grp rfl _ rfl a S.wait rfl HG.out ?_)
  go_ret
  exact ⟨rfl, rfl⟩

theorem lwait_nil {w : World} :
    Calls Tryz.prog 30 #[.pointer none] w fun e w' => e = .returned (.int .i64 0) ∧ w = w' := by
  go_enter Tryz.func30, Tryz.ntmps30
  go_wp2
  go_ret
  exact ⟨rfl, rfl⟩

/-- What Open leaves of a disk. -/
def openD (D : Dk) : Dk := if sec0 D.df = zeroSec then D.df else settleD D.df ((loggedD D.df).getD [])

theorem openD_len (D : Dk) : (openD D).las.length = D.las.length := by
  unfold openD
  split
  · exact Dk.df_len D
  · rw [settleD_len, Dk.df_len]

theorem loggedD_ok {D : Dk} (hD : D.Ok) (hlen : 128 ≤ D.las.length) : GOk ((loggedD D).getD []) ∧ ((loggedD D).getD []).length ≤ 40 ∧ GIn D ((loggedD D).getD []) := by
  have hnil : GOk [] ∧ ([] : Grp).length ≤ 40 ∧ GIn D [] := ⟨GOk.nil, by simp, by simp [GIn]⟩
  unfold loggedD
  split
  · exact hnil
  · rename_i h40
    split
    · exact hnil
    · rename_i g hg
      obtain ⟨h1, h2, h3⟩ := lgo_ok hD hlen (num16 (sec0 D) 4) g (by omega) hg
      split
      · exact ⟨h1, Nat.le_trans h2 (by omega), h3⟩
      · exact hnil

theorem gin_key {D : Dk} {g : Grp} (h : GIn D g) : ∀ k, k < g.length → 48 ≤ gkey g k ∧ gkey g k < D.las.length := by
  intro k hk
  have e : gkey g k = (g[k]).1 := by
    simp [gkey, gkeys, List.getD_eq_getElem?_getD, List.getElem?_eq_getElem hk]
  rw [e]
  exact h _ (List.getElem_mem _)

end Go.Proofs.YtibmillfankjfaaGreatDoor
