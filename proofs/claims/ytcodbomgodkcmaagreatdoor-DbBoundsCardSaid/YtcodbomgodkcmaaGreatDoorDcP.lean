/- World files: the law of the bounds: what its text says (no program), and what Parse answers to it. -/
import Derived.Test.YtcodbomgodkcmaaGreatDoorDcN
import Derived.Test.YtcodbomgodkcmaaGreatDoorLinP
namespace Go.Proofs.YtcodbomgodkcmaaGreatDoor.Wd
open Go.RowKit Go.Maps Go.Proofs.YtcodbomgodkcmaaGreatDoor Go.Proofs.YtcodbomgodkcmaaGreatDoor.Lin Go.Sort
set_option maxRecDepth 100000

theorem inB_print (z : Int) {a b : Int} (ha : 0 ≤ a) (hb : b ≤ 1099511627776) : inB (rdn (prB z)) a b = inB z a b := by
  rw [rdn_print]
  unfold inB
  split
  · rfl
  · rename_i h
    rw [Bool.eq_iff_iff]
    simp only [Bool.and_eq_true, decide_eq_true_eq]
    omega

def bl1 : List UInt8 := [114, 111, 111, 109, 32, 49, 32, 97, 32, 112, 108, 97, 105, 110, 32, 48, 32, 48, 32, 48, 32, 48, 32, 48, 32, 48, 32, 48]
def bl2 (a b : Int) : List UInt8 := [105, 116, 101, 109, 32, 49, 32, 98, 32, 119, 105, 101, 108, 100, 32] ++ (printL a ++ 32 :: printL b)
def bl3 (c d : Int) : List UInt8 := [109, 111, 98, 32, 49, 32, 99, 32, 49, 32] ++ (printL c ++ 32 :: [49] ++ 32 :: (printL d ++ [32, 48]))
def bl4 (e : Int) : List UInt8 := [113, 117, 101, 115, 116, 32, 49, 32, 49, 32] ++ (printL e ++ [32, 48, 32, 48])
def boundsT (a b c d e : Int) : List UInt8 := bl1 ++ 10 :: (bl2 a b ++ 10 :: (bl3 c d ++ 10 :: (bl4 e ++ 10 :: [])))

theorem app_plain {x y : List UInt8} (hx : ∀ c ∈ x, c ≠ 10 ∧ c ≠ 13) (hy : ∀ c ∈ y, c ≠ 10 ∧ c ≠ 13) : ∀ c ∈ x ++ y, c ≠ 10 ∧ c ≠ 13 := fun c hc => by
  rcases List.mem_append.1 hc with hc | hc
  · exact hx c hc
  · exact hy c hc
theorem cons_plain {c0 : UInt8} {y : List UInt8} (h0 : c0 ≠ 10 ∧ c0 ≠ 13) (hy : ∀ c ∈ y, c ≠ 10 ∧ c ≠ 13) : ∀ c ∈ c0 :: y, c ≠ 10 ∧ c ≠ 13 := fun c hc => by
  rcases List.mem_cons.1 hc with rfl | hc
  · exact h0
  · exact hy c hc
theorem print_plain (z : Int) : ∀ c ∈ printL z, c ≠ 10 ∧ c ≠ 13 := fun c hc => (printL_plain z c hc).2
theorem bounds_lines (a b c d e : Int) : linesL (boundsT a b c d e) = [bl1, bl2 a b, bl3 c d, bl4 e] := by
  have h2 : ∀ x ∈ bl2 a b, x ≠ 10 ∧ x ≠ 13 := app_plain (by decide) (app_plain (print_plain a) (cons_plain (by decide) (print_plain b)))
  have h3 : ∀ x ∈ bl3 c d, x ≠ 10 ∧ x ≠ 13 := app_plain (by decide) (app_plain (app_plain (print_plain c) (by decide)) (cons_plain (by decide) (app_plain (print_plain d) (by decide))))
  have h4 : ∀ x ∈ bl4 e, x ≠ 10 ∧ x ≠ 13 := app_plain (by decide) (app_plain (print_plain e) (by decide))
  unfold boundsT
  rw [linesL_line (s := bl1) (by decide), linesL_line h2, linesL_line h3, linesL_line h4, linesL_nil]
theorem print_blank (z : Int) : ∀ c ∈ printL z, isBlank c = false := fun c hc => (printL_plain z c hc).1
theorem bl2_words (a b : Int) : wordsL (bl2 a b) = [[105, 116, 101, 109], [49], [98], [119, 105, 101, 108, 100], printL a, printL b] := by
  unfold bl2
  rw [show ([105, 116, 101, 109, 32, 49, 32, 98, 32, 119, 105, 101, 108, 100, 32] : List UInt8) ++ (printL a ++ 32 :: printL b) = [105, 116, 101, 109] ++ 32 :: ([49] ++ 32 :: ([98] ++ 32 :: ([119, 105, 101, 108, 100] ++ 32 :: (printL a ++ 32 :: printL b)))) by simp,
    wordsL_word (by decide) (by decide), wordsL_word (by decide) (by decide), wordsL_word (by decide) (by decide), wordsL_word (by decide) (by decide), wordsL_word (print_blank a) (printL_ne a), wordsL_last (print_blank b) (printL_ne b)]
theorem bl3_words (c d : Int) : wordsL (bl3 c d) = [[109, 111, 98], [49], [99], [49], printL c, [49], printL d, [48]] := by
  unfold bl3
  rw [show ([109, 111, 98, 32, 49, 32, 99, 32, 49, 32] : List UInt8) ++ (printL c ++ 32 :: [49] ++ 32 :: (printL d ++ [32, 48])) = [109, 111, 98] ++ 32 :: ([49] ++ 32 :: ([99] ++ 32 :: ([49] ++ 32 :: (printL c ++ 32 :: ([49] ++ 32 :: (printL d ++ 32 :: [48])))))) by simp,
    wordsL_word (by decide) (by decide), wordsL_word (by decide) (by decide), wordsL_word (by decide) (by decide), wordsL_word (by decide) (by decide), wordsL_word (print_blank c) (printL_ne c), wordsL_word (by decide) (by decide), wordsL_word (print_blank d) (printL_ne d), wordsL_last (by decide) (by decide)]
theorem bl4_words (e : Int) : wordsL (bl4 e) = [[113, 117, 101, 115, 116], [49], [49], printL e, [48], [48]] := by
  unfold bl4
  rw [show ([113, 117, 101, 115, 116, 32, 49, 32, 49, 32] : List UInt8) ++ (printL e ++ [32, 48, 32, 48]) = [113, 117, 101, 115, 116] ++ 32 :: ([49] ++ 32 :: ([49] ++ 32 :: (printL e ++ 32 :: ([48] ++ 32 :: [48])))) by simp,
    wordsL_word (by decide) (by decide), wordsL_word (by decide) (by decide), wordsL_word (by decide) (by decide), wordsL_word (print_blank e) (printL_ne e), wordsL_word (by decide) (by decide), wordsL_last (by decide) (by decide)]

def bR : RoomM := ⟨1, ⟨#[97]⟩, 0, 0, 0, 0, 0, 0, 0, 0⟩
def bP (a b : Int) : ProtoM := ⟨1, ⟨#[98]⟩, 1, rdn (prB a), rdn (prB b)⟩
def bM (c d : Int) : MobPM := ⟨1, ⟨#[99]⟩, 1, rdn (prB c), 1, rdn (prB d), 0⟩
def bQ (e : Int) : QuestM := ⟨1, 1, rdn (prB e), 0, 0⟩
def okP (a b : Int) : Bool := inB a 0 100 && inB b 0 1073741824
def okM (c d : Int) : Bool := inB c 1 10000 && inB d 0 10000
theorem bP_ok (a b : Int) : okProto (bP a b) = okP a b := by
  unfold okProto bP okP
  simp only [inB_print a (a := 0) (b := 100) (by omega) (by omega), inB_print b (a := 0) (b := gMax) (by omega) (by decide)]
  rw [show (inB 1 1 1000 && wordOk ⟨#[98]⟩ && inB 1 0 2) = true by decide, Bool.true_and]
theorem bM_ok (c d : Int) : okMobP (bM c d) = okM c d := by
  unfold okMobP bM okM
  simp only [inB_print c (a := 1) (b := 10000) (by omega) (by omega), inB_print d (a := 0) (b := 10000) (by omega) (by omega)]
  rw [show (inB 1 1 1000 && wordOk ⟨#[99]⟩ && inB 1 1 1000) = true by decide, Bool.true_and, show inB 1 0 100 = true by decide, show inB 0 0 gMax = true by decide, Bool.and_true, Bool.and_true]
theorem bQ_ok (e : Int) : okQuest (bQ e) = inB e 1 5 := by
  unfold okQuest bQ
  simp only [inB_print e (a := 1) (b := 5) (by omega) (by omega)]
  rw [show (inB 1 1 1000 && inB 1 1 1000) = true by decide, Bool.true_and, show inB 0 0 gMax = true by decide, show inB 0 0 1000 = true by decide, Bool.and_true, Bool.and_true]

theorem bl1_step : stepU bl1 noDb = some (push noDb (.room bR)) := by kernel_rfl
theorem bl2_step (a b : Int) (D : DbM) : stepU (bl2 a b) D = if okP a b = true then some (push D (.proto (bP a b))) else none := by
  unfold stepU
  rw [bl2_words]
  have hh : (bl2 a b).head? = some 105 := rfl
  simp only [hh, show ((some 105 : Option UInt8) = some 35) = False by simp, if_false]
  unfold lineU
  rw [if_neg (show (⟨([105, 116, 101, 109] : List UInt8).toArray⟩ : ByteArray) ≠ wRoom by decide), if_pos rfl,
    show protoP (txts [[49], [98], [119, 105, 101, 108, 100], printL a, printL b]) = bP a b from rfl, bP_ok]
  simp only [show (txts [[49], [98], [119, 105, 101, 108, 100], printL a, printL b]).drop 5 = [] from rfl, true_and]
  split <;> rfl
theorem bl3_step (c d : Int) (D : DbM) : stepU (bl3 c d) D = if okM c d = true then some (push D (.mob (bM c d))) else none := by
  unfold stepU
  rw [bl3_words]
  have hh : (bl3 c d).head? = some 109 := rfl
  simp only [hh, show ((some 109 : Option UInt8) = some 35) = False by simp, if_false]
  unfold lineU
  rw [if_neg (show (⟨([109, 111, 98] : List UInt8).toArray⟩ : ByteArray) ≠ wRoom by decide), if_neg (show (⟨([109, 111, 98] : List UInt8).toArray⟩ : ByteArray) ≠ wItem by decide), if_pos rfl,
    show mobP (txts [[49], [99], [49], printL c, [49], printL d, [48]]) = bM c d from rfl, bM_ok]
  simp only [show (txts [[49], [99], [49], printL c, [49], printL d, [48]]).drop 7 = [] from rfl, true_and]
  split <;> rfl
theorem bl4_step (e : Int) (D : DbM) : stepU (bl4 e) D = if inB e 1 5 = true then some (push D (.quest (bQ e))) else none := by
  unfold stepU
  rw [bl4_words]
  have hh : (bl4 e).head? = some 113 := rfl
  simp only [hh, show ((some 113 : Option UInt8) = some 35) = False by simp, if_false]
  unfold lineU
  rw [if_neg (show (⟨([113, 117, 101, 115, 116] : List UInt8).toArray⟩ : ByteArray) ≠ wRoom by decide), if_neg (show (⟨([113, 117, 101, 115, 116] : List UInt8).toArray⟩ : ByteArray) ≠ wItem by decide), if_neg (show (⟨([113, 117, 101, 115, 116] : List UInt8).toArray⟩ : ByteArray) ≠ wMob by decide), if_neg (show (⟨([113, 117, 101, 115, 116] : List UInt8).toArray⟩ : ByteArray) ≠ wRecipe by decide), if_pos rfl,
    show questP (txts [[49], [49], printL e, [48], [48]]) = bQ e from rfl, bQ_ok]
  simp only [show (txts [[49], [49], printL e, [48], [48]]).drop 5 = [] from rfl, true_and]
  split <;> rfl

def boundsD (a b c d e : Int) : DbM := ⟨[bR], [bP a b], [bM c d], [], [bQ e], []⟩
def okAll (a b c d e : Int) : Bool := okP a b && (okM c d && inB e 1 5)
theorem bounds_parse (a b c d e : Int) : (okAll a b c d e = true ∧ parseU 0 (linesL (boundsT a b c d e)) noDb = .inr (boundsD a b c d e)) ∨ (okAll a b c d e = false ∧ ∃ k, parseU 0 (linesL (boundsT a b c d e)) noDb = .inl k) := by
  rw [bounds_lines]
  simp only [parseU, bl1_step, bl2_step, bl3_step, bl4_step]
  unfold okAll
  cases okP a b with
  | false => exact .inr ⟨rfl, _, rfl⟩
  | true =>
    cases okM c d with
    | false => exact .inr ⟨rfl, _, rfl⟩
    | true =>
      cases inB e 1 5 with
      | false => exact .inr ⟨rfl, _, rfl⟩
      | true => exact .inl ⟨rfl, rfl⟩
theorem tableB_one {α : Type} (ok : α → Bool) (key : α → Int) (x : α) : tableB ok key [x] = ok x := by
  unfold tableB
  rw [show ([x] : List α).length = 1 from rfl]
  simp
theorem bounds_check (a b c d e : Int) (h : okAll a b c d e = true) : checkF (boundsD a b c d e) = 0 := by
  unfold okAll at h
  simp only [Bool.and_eq_true] at h
  obtain ⟨h1, h2, h3⟩ := h
  rw [check_dec]
  have ht : tablesB (boundsD a b c d e) = true := by
    unfold tablesB boundsD
    simp only [tableB_one, bP_ok, bM_ok, bQ_ok, h1, h2, h3]
    rfl
  rw [if_pos ht, if_pos (show closedB (boundsD a b c d e) = true from rfl)]
theorem one_perm {α : Type} {key : α → Int} {x : α} {M : List α} (h : SortOf key [x] M) : M = [x] := List.perm_singleton.1 h.1
theorem no_perm {α : Type} {key : α → Int} {M : List α} (h : SortOf key [] M) : M = [] := List.Perm.eq_nil h.1
theorem bounds_sorted {a b c d e : Int} {M : DbM} (h : SortDb (boundsD a b c d e) M) : sortN M = boundsD a b c d e := by
  have h1 := one_perm h.rooms; have h2 := one_perm h.protos; have h3 := one_perm h.mobs; have h4 := no_perm h.recs; have h5 := one_perm h.quests; have h6 := no_perm h.shops
  cases M
  simp only at h1 h2 h3 h4 h5 h6
  subst h1 h2 h3 h4 h5 h6
  rfl

/-- What Parse answers to it. -/
theorem parseBounds_any {w : World} (hT : T12 w) (a b c d e : Int) {s : ByteArray} (hs : s.data.toList = boundsT a b c d e) (hz : s.size ≤ 1000000) :
    Calls Tryz.prog 8 #[.string s] w fun e' w' => ((okAll a b c d e = true ∧ ∃ p, e' = .returned (.tuple #[.pointer (some ⟨p, 0, none⟩), .nilIface])) ∨ (okAll a b c d e = false ∧ ∃ r k, e' = .returned (.tuple #[.pointer none, lineErr r]) ∧ LErr w' r k)) ∧ Keep (fun _ => False) w w' := by
  refine (parse_any hT s hz).mono fun e' w' h => ?_
  rw [hs] at h
  rcases bounds_parse a b c d e with ⟨ho, hp⟩ | ⟨ho, k, hp⟩
  · rw [hp] at h
    obtain ⟨hk, ⟨k, b, h, _⟩ | ⟨D, M, h, hs, hc, he⟩ | ⟨D, M, p, v1, v2, v3, v4, v5, v6, rr, ss, h, hs, hc, he, ho2⟩⟩ := h
    · cases h
    · cases h; rw [bounds_sorted hs] at hc; exact absurd (bounds_check _ _ _ _ _ ho) hc
    · exact ⟨.inl ⟨ho, p, he⟩, hk⟩
  · rw [hp] at h
    obtain ⟨hk, ⟨k, b, h, he, hb⟩ | ⟨D, M, h, _⟩ | ⟨D, M, p, v1, v2, v3, v4, v5, v6, rr, ss, h, _⟩⟩ := h
    · exact ⟨.inr ⟨ho, b, k, he, hb⟩, hk⟩
    · cases h
    · cases h
end Go.Proofs.YtcodbomgodkcmaaGreatDoor.Wd
