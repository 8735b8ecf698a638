/- World files: what stays small while a text is read; which blocks turn meanwhile. -/
import Derived.Test.YtcodbomgodkcmaaGreatDoorDcI
import Derived.Test.YtcodbomgodkcmaaGreatDoorDbZ
namespace Go.Proofs.YtcodbomgodkcmaaGreatDoor.Wd
open Go.RowKit Go.Maps Go.Proofs.YtcodbomgodkcmaaGreatDoor Go.Proofs.YtcodbomgodkcmaaGreatDoor.Lin Go.Sort
set_option maxRecDepth 100000

theorem strip_len (l : List UInt8) : (strip l).length ≤ l.length := by
  unfold strip; split
  · rw [List.length_dropLast]; omega
  · exact Nat.le_refl _
theorem linesGo_bound : ∀ (s cur : List UInt8), (∀ x ∈ linesGo cur s, x.length ≤ cur.length + s.length) ∧ (linesGo cur s).length ≤ s.length + (if cur = [] then 0 else 1)
  | [], cur => by
    unfold linesGo
    by_cases h : cur = []
    · simp [h]
    · simp [h]
  | c :: s, cur => by
    unfold linesGo
    by_cases h : c = 10
    · rw [if_pos h]
      obtain ⟨h1, h2⟩ := linesGo_bound s []
      refine ⟨fun x hx => ?_, ?_⟩
      · rcases List.mem_cons.1 hx with rfl | hx
        · have := strip_len cur; simp; omega
        · have := h1 x hx; simp at this ⊢; omega
      · simp at h2 ⊢; omega
    · rw [if_neg h]
      obtain ⟨h1, h2⟩ := linesGo_bound s (cur ++ [c])
      refine ⟨fun x hx => by have := h1 x hx; simp at this ⊢; omega, ?_⟩
      simp at h2 ⊢; omega
theorem linesL_small {s : ByteArray} (h : s.size ≤ 1000000) : (linesL s.data.toList).length ≤ 1000000 ∧ ∀ x ∈ linesL s.data.toList, x.length ≤ 1000000 := by
  obtain ⟨h1, h2⟩ := linesGo_bound s.data.toList []
  have e : s.data.toList.length = s.size := by simp
  refine ⟨?_, fun x hx => ?_⟩
  · simp only [if_true] at h2; unfold linesL; omega
  · have := h1 x hx; simp only [List.length_nil] at this; omega

/-- Lists of k at most, names and needs short. -/
structure SzK (k : Nat) (D : DbM) : Prop where
  n1 : D.rooms.length ≤ k
  n2 : D.protos.length ≤ k
  n3 : D.mobs.length ≤ k
  n4 : D.recs.length ≤ k
  n5 : D.quests.length ≤ k
  n6 : D.shops.length ≤ k
  a1 : ∀ x ∈ D.rooms, x.name.size ≤ 1000000
  a2 : ∀ x ∈ D.protos, x.name.size ≤ 1000000
  a3 : ∀ x ∈ D.mobs, x.name.size ≤ 1000000
  a4 : ∀ x ∈ D.recs, x.needs.length ≤ 1000000
  a6 : ∀ x ∈ D.shops, x.items.length ≤ 1000000
theorem SzK.no : SzK 0 noDb := ⟨Nat.le_refl _, Nat.le_refl _, Nat.le_refl _, Nat.le_refl _, Nat.le_refl _, Nat.le_refl _, by simp [noDb], by simp [noDb], by simp [noDb], by simp [noDb], by simp [noDb]⟩
theorem SzK.mono {k m : Nat} {D : DbM} (h : SzK k D) (hk : k ≤ m) : SzK m D :=
  ⟨Nat.le_trans h.n1 hk, Nat.le_trans h.n2 hk, Nat.le_trans h.n3 hk, Nat.le_trans h.n4 hk, Nat.le_trans h.n5 hk, Nat.le_trans h.n6 hk, h.a1, h.a2, h.a3, h.a4, h.a6⟩
theorem SzK.sz {k : Nat} {D : DbM} (h : SzK k D) (hk : k ≤ 1000000) : SzD D :=
  ⟨Nat.le_trans h.n1 hk, Nat.le_trans h.n2 hk, Nat.le_trans h.n3 hk, Nat.le_trans h.n4 hk, Nat.le_trans h.n5 hk, Nat.le_trans h.n6 hk, h.a1, h.a2, h.a3, h.a4, h.a6⟩
/-- Its texts are short. -/
def RowSz : RecI → Prop
  | .room x => x.name.size ≤ 1000000
  | .proto x => x.name.size ≤ 1000000
  | .mob x => x.name.size ≤ 1000000
  | .recipe x => x.needs.length ≤ 1000000
  | .quest _ => True
  | .shop x => x.items.length ≤ 1000000
theorem lineU_size {h : ByteArray} {r : List ByteArray} {R : RecI} (hs : ShortW r) (hl : r.length ≤ 1000000) (e : lineU h r = some R) : RowSz R := by
  unfold lineU at e
  repeat' split at e
  all_goals first
    | (cases e; exact hs.at 1)
    | (cases e; show ((r.drop _).map rdn).length ≤ 1000000; rw [List.length_map, List.length_drop]; omega)
    | (cases e; exact True.intro)
    | cases e
theorem mem_one {α : Type} {P : α → Prop} {l : List α} {x : α} (h : ∀ y ∈ l, P y) (hx : P x) : ∀ y ∈ l ++ [x], P y := fun y hy => by
  rcases List.mem_append.1 hy with hy | hy
  · exact h y hy
  · rw [List.mem_singleton.1 hy]; exact hx
theorem SzK.push {k : Nat} {D : DbM} {R : RecI} (h : SzK k D) (hR : RowSz R) : SzK (k + 1) (Wd.push D R) := by
  have h' := h.mono (Nat.le_succ k)
  obtain ⟨n1, n2, n3, n4, n5, n6, a1, a2, a3, a4, a6⟩ := h'
  cases R with
  | room x => exact ⟨by simp [Wd.push]; exact h.n1, n2, n3, n4, n5, n6, mem_one a1 hR, a2, a3, a4, a6⟩
  | proto x => exact ⟨n1, by simp [Wd.push]; exact h.n2, n3, n4, n5, n6, a1, mem_one a2 hR, a3, a4, a6⟩
  | mob x => exact ⟨n1, n2, by simp [Wd.push]; exact h.n3, n4, n5, n6, a1, a2, mem_one a3 hR, a4, a6⟩
  | recipe x => exact ⟨n1, n2, n3, by simp [Wd.push]; exact h.n4, n5, n6, a1, a2, a3, mem_one a4 hR, a6⟩
  | quest x => exact ⟨n1, n2, n3, n4, by simp [Wd.push]; exact h.n5, n6, a1, a2, a3, a4, a6⟩
  | shop x => exact ⟨n1, n2, n3, n4, n5, by simp [Wd.push]; exact h.n6, a1, a2, a3, a4, mem_one a6 hR⟩
theorem stepU_size {k : Nat} {x : List UInt8} {D D' : DbM} (h : SzK k D) (hx : x.length ≤ 1000000) (e : stepU x D = some D') : SzK (k + 1) D' := by
  unfold stepU at e
  cases hw : wordsL x with
  | nil => rw [hw] at e; cases e; exact h.mono (Nat.le_succ k)
  | cons a r =>
    rw [hw] at e
    simp only at e
    split at e
    · cases e; exact h.mono (Nat.le_succ k)
    · obtain ⟨hs, hl⟩ := shortW_words (s := ⟨x.toArray⟩) (by show x.toArray.size ≤ _; simpa using hx) (by simpa using hw)
      rcases Option.map_eq_some_iff.1 e with ⟨R, hR, rfl⟩
      exact h.push (lineU_size hs hl hR)
theorem SzK.sortN {k : Nat} {D : DbM} (h : SzK k D) : SzK k (Wd.sortN D) := by
  refine ⟨h.n1, h.n2, h.n3, ?_, h.n5, ?_, h.a1, h.a2, h.a3, fun x hx => ?_, fun x hx => ?_⟩
  · show (D.recs.map _).length ≤ k; rw [List.length_map]; exact h.n4
  · show (D.shops.map _).length ≤ k; rw [List.length_map]; exact h.n6
  · obtain ⟨y, hy, rfl⟩ := List.mem_map.1 hx
    show (sortI y.needs).length ≤ _; rw [sortI_len]; exact h.a4 y hy
  · obtain ⟨y, hy, rfl⟩ := List.mem_map.1 hx
    show (sortI y.items).length ≤ _; rw [sortI_len]; exact h.a6 y hy
theorem SzK.sorted {k : Nat} {D M : DbM} (h : SzK k D) (hs : SortDb D M) : SzK k M :=
  ⟨by rw [hs.rooms.len]; exact h.n1, by rw [hs.protos.len]; exact h.n2, by rw [hs.mobs.len]; exact h.n3, by rw [hs.recs.len]; exact h.n4, by rw [hs.quests.len]; exact h.n5, by rw [hs.shops.len]; exact h.n6,
    fun x hx => h.a1 x (hs.rooms.1.mem_iff.1 hx), fun x hx => h.a2 x (hs.protos.1.mem_iff.1 hx), fun x hx => h.a3 x (hs.mobs.1.mem_iff.1 hx), fun x hx => h.a4 x (hs.recs.1.mem_iff.1 hx), fun x hx => h.a6 x (hs.shops.1.mem_iff.1 hx)⟩

/-- The blocks of tables, from n on, and all to come. -/
def TabD (n : Nat) (w : World) (b : Nat) : Prop := n ≤ b ∧ (b < w.heap.size → ∃ cs t f, w.heap[b]? = some (.cells cs t f) ∧ t ∈ dbTys)
theorem TabD.back {n : Nat} {w w1 : World} (k : Keep (TabD n w) w w1) {b : Nat} (h : TabD n w1 b) : TabD n w b ∨ w.heap.size ≤ b := by
  by_cases hb : b < w.heap.size
  · left
    apply Classical.byContradiction
    intro hn
    apply hn
    refine ⟨h.1, fun _ => ?_⟩
    rw [← k.block b hb hn]
    exact h.2 (Nat.lt_of_lt_of_le hb k.size)
  · exact .inr (by omega)
theorem TabD.trans {n : Nat} {w w1 w2 : World} (k : Keep (TabD n w) w w1) (k2 : Keep (TabD n w1) w1 w2) : Keep (TabD n w) w w2 := k.trans k2 (fun _ hb => TabD.back k hb)
theorem TabD.same {n : Nat} {w w1 : World} (k : Keep (fun _ => False) w w1) : Keep (TabD n w) w w1 := k.mono (fun _ _ h => h.elim)
/-- A row of texts is none of them. -/
theorem row_tabD {n k : Nat} {w w1 : World} {v : Value} {xs : List Value} (h : Row w 9 1 v k xs) (hk : Keep (TabD n w) w w1) : Row w1 9 1 v k xs :=
  h.keep hk (fun b hb hf => by
    obtain ⟨cs, f, e⟩ := h.type hb
    obtain ⟨cs2, t2, f2, e2, ht⟩ := hf.2 (lt_of_block e)
    rw [e] at e2
    cases e2
    revert ht
    decide)
theorem DbV.types {B : Nat → Prop} {w : World} {d : Nat} {D : DbM} {v1 v2 v3 v4 v5 v6 : Value} {rr : List (RecM × Value)} {ss : List (ShopM × Value)} (h : DbV B w d D v1 v2 v3 v4 v5 v6 rr ss) {n : Nat} (hB : ∀ b, B b → n ≤ b) : DbV (TabD n w) w d D v1 v2 v3 v4 v5 v6 rr ss := by
  have hr : ∀ {T s m : Nat} {v : Value} {xs : List Value}, Row w T s v m xs → T ∈ dbTys → (∀ b, v.ownBlock = some b → B b) → ∀ b, v.ownBlock = some b → TabD n w b := fun hw ht ho b hb =>
    ⟨hB b (ho b hb), fun _ => by obtain ⟨cs, f, e⟩ := hw.type hb; exact ⟨cs, _, f, e, ht⟩⟩
  have hi : ∀ {v : Value} {l : List Int}, Ints w v l → (∀ b, v.ownBlock = some b → B b) → ∀ b, v.ownBlock = some b → TabD n w b := fun hw ho b hb =>
    ⟨hB b (ho b hb), fun _ => by obtain ⟨cs, f, e⟩ := hw.2 b hb; exact ⟨cs, _, f, e, by simp [dbTys]⟩⟩
  exact ⟨h.blk, ⟨⟨hB d h.base.1, fun _ => ⟨_, _, _, h.blk, by simp [dbTys]⟩⟩, fun b hb => ⟨Nat.le_trans (hB d h.base.1) (Nat.le_trans (Nat.le_of_lt (lt_of_block h.blk)) hb), fun hh => by omega⟩⟩,
    h.l1, h.l2, h.l3, h.l4, h.l5, h.l6, h.fr, h.fs, h.ir, h.is,
    hr h.l1 (by simp [dbTys]) h.o1, hr h.l2 (by simp [dbTys]) h.o2, hr h.l3 (by simp [dbTys]) h.o3, hr h.l4 (by simp [dbTys]) h.o4, hr h.l5 (by simp [dbTys]) h.o5, hr h.l6 (by simp [dbTys]) h.o6,
    fun x hx => hi (h.ir x hx) (h.qr x hx), fun x hx => hi (h.is x hx) (h.qs x hx)⟩
theorem DbO.types {B : Nat → Prop} {w : World} {d : Nat} {D : DbM} {v1 v2 v3 v4 v5 v6 : Value} {rr : List (RecM × Value)} {ss : List (ShopM × Value)} (h : DbO B w d D v1 v2 v3 v4 v5 v6 rr ss) {n : Nat} (hB : ∀ b, B b → n ≤ b) : DbO (TabD n w) w d D v1 v2 v3 v4 v5 v6 rr ss :=
  ⟨h.v.types hB, h.wr, h.ws, h.ap⟩
/-- Tables seen from a bound on. -/
theorem DbO.bound {B : Nat → Prop} {w : World} {d : Nat} {D : DbM} {v1 v2 v3 v4 v5 v6 : Value} {rr : List (RecM × Value)} {ss : List (ShopM × Value)} (h : DbO B w d D v1 v2 v3 v4 v5 v6 rr ss) {P : Nat → Prop} (hB : ∀ b, B b → P b) (_hd : P d) : DbO P w d D v1 v2 v3 v4 v5 v6 rr ss :=
  ⟨⟨h.v.blk, ⟨hB d h.v.base.1, fun b hb => hB b (h.v.base.2 b hb)⟩, h.v.l1, h.v.l2, h.v.l3, h.v.l4, h.v.l5, h.v.l6, h.v.fr, h.v.fs, h.v.ir, h.v.is,
    fun b hb => hB b (h.v.o1 b hb), fun b hb => hB b (h.v.o2 b hb), fun b hb => hB b (h.v.o3 b hb), fun b hb => hB b (h.v.o4 b hb), fun b hb => hB b (h.v.o5 b hb), fun b hb => hB b (h.v.o6 b hb),
    fun x hx b hb => hB b (h.v.qr x hx b hb), fun x hx b hb => hB b (h.v.qs x hx b hb)⟩, h.wr, h.ws, h.ap⟩
/-- Tables with nothing in them. -/
theorem DbO.begin {w : World} : DbO (fun b => w.heap.size ≤ b) (w.alloc (.cells #[.slice none 0 0, .slice none 0 0, .slice none 0 0, .slice none 0 0, .slice none 0 0, .slice none 0 0] 50)) w.heap.size noDb (.slice none 0 0) (.slice none 0 0) (.slice none 0 0) (.slice none 0 0) (.slice none 0 0) (.slice none 0 0) [] [] := by
  have hs : w.heap.size ≤ (w.alloc (.cells #[.slice none 0 0, .slice none 0 0, .slice none 0 0, .slice none 0 0, .slice none 0 0, .slice none 0 0] 50)).heap.size := ((Keep.refl (fun _ => False) w).alloc _).size
  refine ⟨⟨heap_alloc_new w _, ⟨Nat.le_refl _, fun b hb => Nat.le_trans hs hb⟩, ⟨rfl, .inl ⟨rfl, rfl⟩⟩, ⟨rfl, .inl ⟨rfl, rfl⟩⟩, ⟨rfl, .inl ⟨rfl, rfl⟩⟩, ⟨rfl, .inl ⟨rfl, rfl⟩⟩, ⟨rfl, .inl ⟨rfl, rfl⟩⟩, ⟨rfl, .inl ⟨rfl, rfl⟩⟩, rfl, rfl, by simp, by simp, ?_, ?_, ?_, ?_, ?_, ?_, by simp, by simp⟩, by simp, by simp, by simp⟩
  all_goals intro b hb; cases hb
end Go.Proofs.YtcodbomgodkcmaaGreatDoor.Wd
/- World files: the program's Parse. -/
namespace Go.Proofs.YtcodbomgodkcmaaGreatDoor.Wd
open Go.RowKit Go.Maps Go.Proofs.YtcodbomgodkcmaaGreatDoor Go.Proofs.YtcodbomgodkcmaaGreatDoor.Lin Go.Sort
set_option maxRecDepth 100000

/-- What Parse answers: the first line that is none, or the tables sorted, or what is wrong with them. -/
def ParseA (w : World) (o : Nat ⊕ DbM) (e : Ending) (w' : World) : Prop :=
  Keep (fun _ => False) w w' ∧ ((∃ k b, o = .inl k ∧ e = .returned (.tuple #[.pointer none, .iface 31 (.pointer (some ⟨b, 0, none⟩))]) ∧ w'.heap[b]? = some (.cells #[.int .i64 k, .iface 37 (.int .i64 13)] 35 (0, 0))) ∨
    (∃ D M, o = .inr D ∧ SortDb D M ∧ checkF (sortN M) ≠ 0 ∧ e = .returned (.tuple #[.pointer none, errV (checkF (sortN M))])) ∨
    (∃ D M d v1 v2 v3 v4 v5 v6 rr ss, o = .inr D ∧ SortDb D M ∧ checkF (sortN M) = 0 ∧ e = .returned (.tuple #[.pointer (some ⟨d, 0, none⟩), .nilIface]) ∧ DbO (fun b => w.heap.size ≤ b) w' d (sortN M) v1 v2 v3 v4 v5 v6 rr ss))

/-- At line k: what the lines before made. -/
structure PaR (L : List (List UInt8)) (n d : Nat) (w1 : World) (iv : Value) (wr : World) : Prop where
  ex : ∃ (k : Nat) (D : DbM) (v1 v2 v3 v4 v5 v6 : Value) (rr : List (RecM × Value)) (ss : List (ShopM × Value)), iv = .int .i64 (k : Int) ∧ k ≤ L.length ∧ parseU 0 L noDb = parseU k (L.drop k) D ∧ SzK k D ∧ DbO (TabD n wr) wr d D v1 v2 v3 v4 v5 v6 rr ss ∧ Keep (TabD n w1) w1 wr

/-- What Number and Print want stands while tables turn. -/
theorem T12B.tab {w w1 wr : World} (h : T12 w) (k1 : Keep (fun _ => False) w w1) (k2 : Keep (TabD w.heap.size w1) w1 wr) : T12B (TabD w.heap.size wr) wr := by
  have h0 : T12B (fun b => w.heap.size ≤ b) w := T12.base h (fun _ hb => hb)
  have h1 := (h0.keep k1 (fun _ hb => hb.elim)).keep k2 (fun b hb => hb.1)
  exact ⟨h1.t, fun hb => h1.b1 hb.1, fun hb => h1.b2 hb.1, fun hb => h1.b3 hb.1⟩
theorem line_cell {wr : World} {va : Option Addr} {vc : Nat} {L : List (List UInt8)} (h : Row wr 9 1 (.slice va L.length vc) L.length (scells L)) {k : Nat} {x : List UInt8} (hx : L[k]? = some x) : ∃ g off, va = some ⟨g, off, none⟩ ∧ wr.cell? ⟨g, off + k, none⟩ = some (.string ⟨x.toArray⟩) := by
  have hk := (List.getElem?_eq_some_iff.1 hx).1
  obtain ⟨g, off, cap, he, _⟩ := h.full (by omega)
  simp only [Value.slice.injEq, true_and] at he
  obtain ⟨rfl, rfl⟩ := he
  refine ⟨g, off, rfl, ?_⟩
  rw [h.cellAt k (by omega)]
  unfold scells
  rw [List.getElem?_map, hx]
  rfl
theorem parseU_next {L : List (List UInt8)} {k : Nat} {x : List UInt8} {D : DbM} (hx : L[k]? = some x) : parseU k (L.drop k) D = match stepU x D with | none => .inl (k + 1) | some D' => parseU (k + 1) (L.drop (k + 1)) D' := by
  have hk := (List.getElem?_eq_some_iff.1 hx).1
  have e : L[k] = x := by have := List.getElem?_eq_getElem hk; rw [hx] at this; exact (Option.some.inj this).symm
  rw [List.drop_eq_getElem_cons hk, e, parseU]
  cases stepU x D <;> rfl

set_option maxHeartbeats 4000000 in
theorem parse_any {w : World} (hT : T12 w) (s : ByteArray) (hs : s.size ≤ 1000000) :
    Calls Tryz.prog 8 #[.string s] w (ParseA w (parseU 0 (linesL s.data.toList) noDb)) := by
  obtain ⟨hL1, hL2⟩ := linesL_small hs
  have HL := Lib.hid (fun (W : World) => lines_any (w := W) s hs)
  generalize hLL : linesL s.data.toList = L at *
  have HL1 := Lib.hid hL1
  have HL2 := Lib.hid hL2
  have HT := Lib.hid hT
  clear hT hs hL1 hL2 hLL
  go_enter Tryz.func8, Tryz.ntmps8
  go_wp2_with (first
    | (go_at_call 16; (with_reducible refine (HL.out _).mono ?_); rintro e w1 ⟨v, rfl, row, own, k1⟩; have HROW := Lib.hid row; have K1 := Lib.hid (((Keep.refl (fun _ => False) w).alloc _).trans k1 (fun _ h => h.elim)); have H1 := Lib.hid (((DbO.begin (w := w)).keep0 k1).types (n := w.heap.size) (fun _ h => h)); clear row k1 own; obtain ⟨va, vc, rfl, hvc, hvc2⟩ := HROW.out.slice; unfold maxLen at hvc2))
  obtain ⟨d, hd⟩ : ∃ d, d = w.heap.size := ⟨_, rfl⟩
  have HD := Lib.hid hd
  rw [← hd] at H1 ⊢
  clear hd
  go_loopw [5, 6, 13] (fun _ _ iv wr => PaR L d d w1 iv wr) (fun _ _ iv _ => L.length - (intOf iv).toNat)
  case atStart => exact ⟨0, noDb, _, _, _, _, _, _, [], [], rfl, Nat.zero_le _, rfl, SzK.no, H1.out, Keep.refl _ _⟩
  case round =>
    obtain ⟨k, D, v1, v2, v3, v4, v5, v6, rr, ss, rfl, hk, hp, hz, ho, hK⟩ := hrel.ex
    have HO := Lib.hid ho; have HK := Lib.hid hK; have HZ := Lib.hid hz; have HP := Lib.hid hp
    clear ho hK hz hp hrel
    have HTT := Lib.hid (T12B.tab HT.out K1.out (by rw [← HD.out]; exact HK.out))
    rw [← HD.out] at HTT
    have HKW : Hid (∀ w9, Keep (TabD d wr) wr w9 → Keep (fun _ => False) w w9) := Lib.hid (fun w9 k9 => K1.out.trans (TabD.trans HK.out k9) (fun b hb => .inr (by rw [← HD.out]; exact hb.1)))
    by_cases hlt : k < L.length
    · have hd1 : decide (k < L.length) = true := by simpa using hlt
      obtain ⟨x, hx⟩ : ∃ x, L[k]? = some x := ⟨_, List.getElem?_eq_getElem hlt⟩
      obtain ⟨g, off, rfl, q0⟩ := line_cell (row_tabD HROW.out HK.out) hx
      have hxl := HL2.out x (List.mem_of_getElem? hx)
      have hkl : k ≤ 1000000 := by have := HL1.out; omega
      have HADD := Lib.hid (addLine_any HO.out ⟨x.toArray⟩ (by show x.toArray.size ≤ _; simpa using hxl) HTT.out (Nat.le_trans HZ.out.n1 hkl) (Nat.le_trans HZ.out.n2 hkl) (Nat.le_trans HZ.out.n3 hkl) (Nat.le_trans HZ.out.n4 hkl) (Nat.le_trans HZ.out.n5 hkl) (Nat.le_trans HZ.out.n6 hkl))
      have hp2 := HP.out.trans (parseU_next hx)
      have HXL := Lib.hid hxl
      rw [show (⟨x.toArray⟩ : ByteArray).data.toList = x by simp] at HADD
      cases hst : stepU x D with
      | none =>
        rw [hst] at HADD hp2
        have HP2 := Lib.hid hp2
        clear hx hxl hp2 hst
        go_wp2_with (go_at_call 17; (with_reducible refine HADD.out.mono ?_); rintro e w9 hA; obtain ⟨rfl, k9⟩ : e = .returned (.bool false) ∧ Keep (TabD d wr) wr w9 := (by (rcases hA with ⟨D', _, _, _, _, _, _, _, _, q, _⟩ | ⟨_, rfl, q3⟩); cases q; exact ⟨rfl, q3⟩); have K9 := Lib.hid (HKW.out _ k9); clear k9 hA)
        go_ret2
        refine ⟨K9.out.alloc _, .inl ⟨k + 1, _, HP2.out, ?_, heap_alloc_new w9 _⟩⟩
        congr 1
      | some D' =>
        rw [hst] at HADD hp2
        have HP2 := Lib.hid hp2
        have HZ2 := Lib.hid (stepU_size HZ.out hxl hst)
        clear hx hxl hp2 hst
        go_wp2_with (go_at_call 17; (with_reducible refine HADD.out.mono ?_); rintro e w9 hA; obtain ⟨rfl, a1, a2, a3, a4, a5, a6, a7, a8, q3, q4⟩ : e = .returned (.bool true) ∧ ∃ a1 a2 a3 a4 a5 a6 a7 a8, DbO (TabD d wr) w9 d D' a1 a2 a3 a4 a5 a6 a7 a8 ∧ Keep (TabD d wr) wr w9 := (by (rcases hA with ⟨D'', _, _, _, _, _, _, _, _, q, he, q3, q4⟩ | ⟨q, _⟩); (cases q; exact ⟨he, _, _, _, _, _, _, _, _, q3, q4⟩); cases q); have HO9 := Lib.hid (q3.types (fun b hb => hb.1)); have K9 := Lib.hid (TabD.trans HK.out q4); clear q3 q4 hA)
        go_roundw
        case rel => exact ⟨k + 1, D', _, _, _, _, _, _, _, _, by go_num, by omega, HP2.out, HZ2.out, HO9.out, K9.out⟩
        case measure => simp [intOf]; omega
    · have hd1 : decide (k < L.length) = false := by rw [decide_eq_false_iff_not]; omega
      obtain rfl : k = L.length := by omega
      have HPE : Hid (parseU 0 L noDb = .inr D) := Lib.hid (by rw [HP.out, List.drop_length]; rfl)
      have hz := HZ.out.sz HL1.out
      have HSO := Lib.hid (sortTables_any HO.out hz.n1 hz.n2 hz.n3 hz.n4 hz.n5 hz.n6 hz.a4 hz.a6)
      clear hz
      go_wp2_with (go_at_call 18; (with_reducible refine HSO.out.mono ?_); rintro e w2 ⟨rfl, M, r2, s2, hsd, ho2, hk2⟩; have HSD := Lib.hid hsd; have HO2 := Lib.hid ho2; have HK2 := Lib.hid hk2; have HCK := Lib.hid (check_any ho2.v.at ((HZ.out.sorted hsd).sortN.sz HL1.out)); clear hsd ho2 hk2)
      by_cases hc : checkF (sortN M) = 0
      · have HC := Lib.hid hc
        unfold errV at HCK
        rw [if_pos hc] at HCK
        clear hc
        go_wp2_with (go_at_call 19; (with_reducible refine HCK.out.mono ?_); rintro e w3 ⟨rfl, k3⟩; have K3 := Lib.hid k3; clear k3)
        go_ret2
        refine ⟨HKW.out _ (HK2.out.trans K3.out (fun _ h => h.elim)), .inr (.inr ⟨D, M, d, v1, v2, v3, v4, v5, v6, r2, s2, HPE.out, HSD.out, HC.out, rfl, ?_⟩)⟩
        exact (HO2.out.keep0 K3.out).bound (fun b hb => by rw [← HD.out]; exact hb.1) (by rw [← HD.out]; exact HO2.out.v.base.1.1)
      · have HC := Lib.hid hc
        have HCV : Hid (errV (checkF (sortN M)) = .iface 37 (.int .i64 (checkF (sortN M)))) := Lib.hid (by unfold errV; rw [if_neg hc])
        rw [HCV.out] at HCK
        clear hc
        obtain ⟨c, hcc⟩ : ∃ c, c = checkF (sortN M) := ⟨_, rfl⟩
        rw [← hcc] at HCK HC HCV
        have HCC := Lib.hid hcc
        clear hcc
        go_wp2_with (go_at_call 19; (with_reducible refine HCK.out.mono ?_); rintro e w3 ⟨rfl, k3⟩; have K3 := Lib.hid k3; clear k3)
        go_ret2
        exact ⟨HKW.out _ (HK2.out.trans K3.out (fun _ h => h.elim)), .inr (.inl ⟨D, M, HPE.out, HSD.out, by rw [← HCC.out]; exact HC.out, by rw [← HCC.out, HCV.out]; rfl⟩)⟩
end Go.Proofs.YtcodbomgodkcmaaGreatDoor.Wd
