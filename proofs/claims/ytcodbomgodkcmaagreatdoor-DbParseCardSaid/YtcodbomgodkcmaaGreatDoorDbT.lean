/- World files: texts that the statements put together, as lines and words (no program). -/
import Derived.Test.YtcodbomgodkcmaaGreatDoorDbN
namespace Go.Proofs.YtcodbomgodkcmaaGreatDoor.Wd
open Go.RowKit Go.Proofs.YtcodbomgodkcmaaGreatDoor Go.Proofs.YtcodbomgodkcmaaGreatDoor.Lin
set_option maxRecDepth 100000

theorem linesGo_to : ∀ (s r cur : List UInt8), (∀ c ∈ s, c ≠ 10) → linesGo cur (s ++ 10 :: r) = strip (cur ++ s) :: linesGo [] r
  | [], r, cur, _ => by rw [List.nil_append, linesGo_ten, List.append_nil]
  | c :: s, r, cur, h => by
    rw [List.cons_append, linesGo_other (h c (by simp)), linesGo_to s r (cur ++ [c]) (fun d hd => h d (by simp [hd]))]
    simp
/-- A line and its end. -/
theorem linesL_line {s r : List UInt8} (h : ∀ c ∈ s, c ≠ 10 ∧ c ≠ 13) : linesL (s ++ 10 :: r) = s :: linesL r := by
  unfold linesL
  rw [linesGo_to s r [] (fun c hc => (h c hc).1), List.nil_append]
  congr 1
  unfold strip
  rw [if_neg]
  intro hh
  exact (h 13 (List.mem_of_getLast? hh)).2 rfl
theorem linesL_nil : linesL [] = [] := rfl
theorem wordsGo_to : ∀ (x r cur : List UInt8), (∀ c ∈ x, isBlank c = false) → wordsGo cur (x ++ r) = wordsGo (cur ++ x) r
  | [], r, cur, _ => by rw [List.nil_append, List.append_nil]
  | c :: x, r, cur, h => by
    rw [List.cons_append, wordsGo_other (h c (by simp)), wordsGo_to x r (cur ++ [c]) (fun d hd => h d (by simp [hd]))]
    simp
/-- A word and the blank behind it. -/
theorem wordsL_word {x r : List UInt8} (h : ∀ c ∈ x, isBlank c = false) (hx : x ≠ []) : wordsL (x ++ 32 :: r) = x :: wordsL r := by
  unfold wordsL
  rw [wordsGo_to x _ [] h, List.nil_append, wordsGo_blank (by decide), if_neg hx]
  rfl
theorem wordsL_last {x : List UInt8} (h : ∀ c ∈ x, isBlank c = false) (hx : x ≠ []) : wordsL x = [x] := by
  have := wordsGo_to x [] [] h
  rw [List.append_nil, List.nil_append] at this
  unfold wordsL
  rw [this, wordsGo_end, if_neg hx]

theorem isDig_plain {c : UInt8} (h : isDig c = true) : isBlank c = false ∧ c ≠ 10 ∧ c ≠ 13 := by
  unfold isDig at h
  simp only [Bool.and_eq_true, decide_eq_true_eq] at h
  have h1 : c ≠ 10 := by rintro rfl; exact absurd h.1 (by decide)
  have h2 : c ≠ 13 := by rintro rfl; exact absurd h.1 (by decide)
  have h3 : c ≠ 32 := by rintro rfl; exact absurd h.1 (by decide)
  have h4 : c ≠ 9 := by rintro rfl; exact absurd h.1 (by decide)
  exact ⟨by unfold isBlank; simp [h3, h4], h1, h2⟩
theorem printL_plain (z : Int) : ∀ c ∈ printL z, isBlank c = false ∧ c ≠ 10 ∧ c ≠ 13 := by
  unfold printL
  split
  · intro c hc
    rcases List.mem_cons.1 hc with rfl | hc
    · decide
    · exact isDig_plain (decL_digs _ c hc)
  · exact fun c hc => isDig_plain (decL_digs _ c hc)
theorem printL_ne (z : Int) : printL z ≠ [] := by
  unfold printL
  split
  · simp
  · exact decL_ne _
/-- A number's text. -/
def prB (z : Int) : ByteArray := ⟨(printL z).toArray⟩
theorem prB_list (z : Int) : (prB z).data.toList = printL z := by unfold prB; simp
theorem rdn_print (z : Int) : rdn (prB z) = if 0 ≤ z ∧ z ≤ 1099511627776 then z else -1 := by
  unfold rdn
  rw [prB_list, numL_print]
  by_cases h : 0 ≤ z ∧ z ≤ 1099511627776
  · rw [if_pos h, if_pos h]; simp; omega
  · rw [if_neg h, if_neg h]

/-- A line with one number in it, in pieces. -/
theorem words_app {x : List UInt8} (y : List UInt8) (h : ∀ c ∈ x, isBlank c = false) (hx : x ≠ []) (r : List UInt8) : wordsL (x ++ (32 :: y ++ r)) = x :: wordsL (y ++ r) := by
  rw [List.cons_append, wordsL_word h hx]

/-- DbMany's lines. -/
def roomA : List UInt8 := [114, 111, 111, 109, 32]
def roomZ : List UInt8 := [32, 114, 32, 112, 108, 97, 105, 110, 32, 48, 32, 49, 32, 48, 32, 48, 32, 48, 32, 48, 32, 48]
def roomT (i : Int) : List UInt8 := roomA ++ (printL i ++ roomZ)
theorem roomT_words (i : Int) : wordsL (roomT i) = [[114, 111, 111, 109], printL i, [114], [112, 108, 97, 105, 110], [48], [49], [48], [48], [48], [48], [48]] := by
  unfold roomT roomA roomZ
  rw [show ([114, 111, 111, 109, 32] : List UInt8) ++ (printL i ++ [32, 114, 32, 112, 108, 97, 105, 110, 32, 48, 32, 49, 32, 48, 32, 48, 32, 48, 32, 48, 32, 48]) = [114, 111, 111, 109] ++ 32 :: (printL i ++ 32 :: [114, 32, 112, 108, 97, 105, 110, 32, 48, 32, 49, 32, 48, 32, 48, 32, 48, 32, 48, 32, 48]) by simp,
    wordsL_word (by decide) (by decide), wordsL_word (fun c hc => (printL_plain i c hc).1) (printL_ne i)]
  rfl
theorem roomT_plain (i : Int) : ∀ c ∈ roomT i, c ≠ 10 ∧ c ≠ 13 := by
  unfold roomT
  intro c hc
  rcases List.mem_append.1 hc with hc | hc
  · exact (show ∀ c ∈ roomA, c ≠ 10 ∧ c ≠ 13 by decide) c hc
  · rcases List.mem_append.1 hc with hc | hc
    · exact (printL_plain i c hc).2
    · exact (show ∀ c ∈ roomZ, c ≠ 10 ∧ c ≠ 13 by decide) c hc
def manyR (i : Int) : RoomM := ⟨i, ⟨#[114]⟩, 0, 0, 1, 0, 0, 0, 0, 0⟩
theorem roomT_step (i : Int) (h1 : 1 ≤ i) (h2 : i ≤ 1000) (D : DbM) : stepU (roomT i) D = some (push D (.room (manyR i))) := by
  unfold stepU
  rw [roomT_words]
  have hr : roomP (txts [printL i, [114], [112, 108, 97, 105, 110], [48], [49], [48], [48], [48], [48], [48]]) = manyR i := by
    have h0 : rdn (atW (txts [printL i, [114], [112, 108, 97, 105, 110], [48], [49], [48], [48], [48], [48], [48]]) 0) = i := by
      rw [show atW (txts [printL i, [114], [112, 108, 97, 105, 110], [48], [49], [48], [48], [48], [48], [48]]) 0 = prB i from rfl, rdn_print, if_pos ⟨by omega, by omega⟩]
    unfold roomP
    rw [h0]
    rfl
  have hl : lineU wRoom (txts [printL i, [114], [112, 108, 97, 105, 110], [48], [49], [48], [48], [48], [48], [48]]) = some (.room (manyR i)) := by
    unfold lineU
    rw [if_pos rfl, hr, if_pos]
    refine ⟨rfl, ?_⟩
    unfold okRoom manyR
    have : inB i 1 1000 = true := by unfold inB; simp; omega
    rw [this]
    rfl
  have hh : (roomT i).head? = some 114 := rfl
  simp only [hh, show ((some 114 : Option UInt8) = some 35) = False by simp, if_false]
  rw [show (⟨([114, 111, 111, 109] : List UInt8).toArray⟩ : ByteArray) = wRoom from rfl, hl]
  rfl
theorem parseU_rooms : ∀ (L : List Int) (k : Nat) (D : DbM), (∀ i ∈ L, 1 ≤ i ∧ i ≤ 1000) → parseU k (L.map roomT) D = .inr { D with rooms := D.rooms ++ L.map manyR }
  | [], _, D, _ => by simp [parseU]
  | i :: L, k, D, h => by
    rw [List.map_cons, parseU, roomT_step i (h i (by simp)).1 (h i (by simp)).2]
    simp only
    rw [parseU_rooms L (k + 1) _ (fun j hj => h j (by simp [hj]))]
    simp [push]
theorem linesL_rooms : ∀ L : List Int, linesL (L.flatMap fun i => roomT i ++ [10]) = L.map roomT
  | [] => rfl
  | i :: L => by
    rw [List.flatMap_cons, List.append_assoc, List.singleton_append, linesL_line (roomT_plain i), linesL_rooms L, List.map_cons]

/-- The numbers from n down to 1. -/
def downs : Nat → List Int
  | 0 => []
  | n + 1 => ((n + 1 : Nat) : Int) :: downs n
theorem downs_len : ∀ n, (downs n).length = n
  | 0 => rfl
  | n + 1 => by rw [downs, List.length_cons, downs_len n]
theorem downs_mem : ∀ (n : Nat) (i : Int), i ∈ downs n ↔ 1 ≤ i ∧ i ≤ n
  | 0, i => by simp [downs]; omega
  | n + 1, i => by rw [downs, List.mem_cons, downs_mem n]; omega
theorem downs_fall : ∀ n, (downs n).Pairwise (fun a b => b < a)
  | 0 => List.Pairwise.nil
  | n + 1 => by rw [downs]; exact List.pairwise_cons.2 ⟨fun b hb => by have := (downs_mem n b).1 hb; omega, downs_fall n⟩
theorem okRoom_many {i : Int} (h1 : 1 ≤ i) (h2 : i ≤ 1000) : okRoom (manyR i) = true := by
  unfold okRoom manyR
  have : inB i 1 1000 = true := by unfold inB; simp; omega
  rw [this]
  rfl

def noDbR (L : List RoomM) : DbM := ⟨L, [], [], [], [], []⟩
/-- Tables of rooms alone. -/
theorem noDbR_ok (M : List RoomM) : ThingsOk (noDbR M) ∧ RestOk (noDbR M) :=
  ⟨⟨⟨by simp [noDbR], List.Pairwise.nil⟩, ⟨by simp [noDbR], List.Pairwise.nil⟩, by simp [noDbR], by simp [noDbR]⟩,
   ⟨⟨by simp [noDbR], List.Pairwise.nil⟩, ⟨by simp [noDbR], List.Pairwise.nil⟩, ⟨by simp [noDbR], List.Pairwise.nil⟩, by simp [noDbR], by simp [noDbR], by simp [noDbR]⟩⟩
theorem check_rooms_bad {M : List RoomM} (h : ¬ (Rise okRoom RoomM.id M ∧ M.length ≤ 60)) : checkF (noDbR M) = 13 := by
  unfold checkF
  rw [if_pos (.inr (.inl h))]
theorem check_rooms_ok {M : List RoomM} (h0 : M ≠ []) (h : Rise okRoom RoomM.id M ∧ M.length ≤ 60)
    (he : ∀ r ∈ M, exitOk (noDbR M) r.e0 = true ∧ exitOk (noDbR M) r.e1 = true ∧ exitOk (noDbR M) r.e2 = true ∧ exitOk (noDbR M) r.e3 = true ∧ exitOk (noDbR M) r.e4 = true ∧ exitOk (noDbR M) r.e5 = true) : checkF (noDbR M) = 0 := by
  unfold checkF
  rw [if_neg, if_neg]
  · intro hc; exact hc ⟨he, by simp [noDbR], by simp [noDbR], by simp [noDbR], by simp [noDbR]⟩
  · rintro (hc | hc | hc | hc)
    · exact h0 hc
    · exact hc h
    · exact hc (noDbR_ok M).1
    · exact hc (noDbR_ok M).2

theorem SortDb.rooms_only {L : List RoomM} {N : DbM} (h : SortDb (noDbR L) N) : N = noDbR N.rooms ∧ SortOf RoomM.id L N.rooms := by
  have e : ∀ {α : Type} {key : α → Int} {M : List α}, SortOf key [] M → M = [] := fun h => List.Perm.eq_nil h.1
  refine ⟨?_, h.rooms⟩
  have h2 := e h.protos; have h3 := e h.mobs; have h4 := e h.recs; have h5 := e h.quests; have h6 := e h.shops
  cases N
  simp only at h2 h3 h4 h5 h6
  subst h2 h3 h4 h5 h6
  rfl

/-- Sixty rooms may be. -/
theorem many_fine {n : Nat} (h1 : 1 ≤ n) (h2 : n ≤ 60) {N : DbM} (h : SortDb (noDbR ((downs n).map manyR)) N) : checkF N = 0 ∧ N.rooms.length = n ∧ ∃ x, N.rooms[0]? = some x ∧ x.id = 1 := by
  obtain ⟨hN, hs⟩ := h.rooms_only
  obtain ⟨M, hM⟩ : ∃ M, M = N.rooms := ⟨_, rfl⟩
  rw [← hM] at hN hs ⊢
  subst hN
  have hR : SortOf RoomM.id ((downs n).map manyR) (((downs n).reverse).map manyR) :=
    ⟨(List.reverse_perm _).map _, by
      rw [List.pairwise_map, List.pairwise_reverse]
      exact (downs_fall n).imp (fun h => by show _ ≤ _; simp only [manyR]; omega)⟩
  have hok : Rise okRoom RoomM.id (((downs n).reverse).map manyR) := by
    refine ⟨fun x hx => ?_, ?_⟩
    · obtain ⟨i, hi, rfl⟩ := List.mem_map.1 hx
      have := (downs_mem n i).1 (by simpa using hi)
      exact okRoom_many this.1 (by omega)
    · rw [List.pairwise_map, List.pairwise_reverse]
      exact (downs_fall n).imp (fun h => by simp only [manyR]; omega)
  have hMe : M = ((downs n).reverse).map manyR := (hR.rise hs hok).symm
  have hlen : M.length = n := by rw [hMe]; simp [downs_len]
  have h0 : ∃ x, M[0]? = some x ∧ x.id = 1 := by
    have hm : (1 : Int) ∈ downs n := (downs_mem n 1).2 (by omega)
    have hx : manyR 1 ∈ M := by rw [hMe]; exact List.mem_map.2 ⟨1, by simpa using hm, rfl⟩
    obtain ⟨x, hx0⟩ : ∃ x, M[0]? = some x := ⟨_, List.getElem?_eq_getElem (by omega)⟩
    refine ⟨x, hx0, ?_⟩
    have hxm : x ∈ M := List.mem_of_getElem? hx0
    rw [hMe] at hxm
    obtain ⟨i, hi, rfl⟩ := List.mem_map.1 hxm
    have hi1 := (downs_mem n i).1 (by simpa using hi)
    obtain ⟨j, hj, hje⟩ := List.mem_iff_getElem.1 hx
    rcases Nat.eq_zero_or_pos j with hj0 | hj0
    · subst hj0
      rw [List.getElem?_eq_getElem (by omega)] at hx0
      simp only [Option.some.injEq] at hx0
      rw [hx0] at hje
      rw [hje]; rfl
    · have hp := List.pairwise_iff_getElem.1 hs.2 0 j (by omega) hj hj0
      rw [List.getElem?_eq_getElem (by omega)] at hx0
      simp only [Option.some.injEq] at hx0
      rw [hx0, hje] at hp
      simp only [manyR] at hp ⊢
      omega
  refine ⟨?_, hlen, h0⟩
  refine check_rooms_ok (fun h => by rw [h] at hlen; simp at hlen; omega) ⟨by rw [hMe]; exact hok, by omega⟩ ?_
  · have hr1 : hasRoom (noDbR M) 1 = true := by
      unfold hasRoom
      rw [decide_eq_true_eq]
      obtain ⟨x, hx, hx1⟩ := h0
      rcases findI_cases (fun r : RoomM => r.id == 1) (noDbR M).rooms with ⟨_, hf⟩ | ⟨k, a, hk, _⟩
      · have := hf 0 x hx
        simp [hx1] at this
      · rw [hk]; omega
    intro r hr
    rw [hMe] at hr
    obtain ⟨i, _, rfl⟩ := List.mem_map.1 hr
    have z : exitOk (noDbR M) 0 = true := by unfold exitOk; simp
    have o : exitOk (noDbR M) 1 = true := by unfold exitOk; rw [hr1]; simp
    exact ⟨o, z, z, z, z, z⟩

/-- More than sixty rooms, or one number twice: they may not be. -/
theorem many_bad {L : List Int} {N : DbM} (h : SortDb (noDbR (L.map manyR)) N) (hb : 60 < L.length ∨ ¬ L.Nodup) : checkF N = 13 := by
  obtain ⟨hN, hs⟩ := h.rooms_only
  rw [hN]
  refine check_rooms_bad ?_
  rintro ⟨⟨_, hp⟩, hlen⟩
  have hl := hs.len
  rw [List.length_map] at hl
  rcases hb with hb | hb
  · omega
  · apply hb
    have hp2 : (N.rooms.map RoomM.id).Nodup := by
      rw [List.Nodup, List.pairwise_map]
      exact hp.imp (fun h => by omega)
    have hpm : (N.rooms.map RoomM.id).Perm L := by
      have := hs.1.map RoomM.id
      rw [List.map_map] at this
      have e : (RoomM.id ∘ manyR) = id := by funext i; rfl
      rw [e, List.map_id] at this
      exact this
    exact hpm.nodup_iff.1 hp2
end Go.Proofs.YtcodbomgodkcmaaGreatDoor.Wd
