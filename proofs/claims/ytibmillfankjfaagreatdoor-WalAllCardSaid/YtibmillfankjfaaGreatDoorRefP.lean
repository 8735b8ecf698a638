/- The reference log's list of what waits, in the order of putting, plainly: no program. -/
import Derived.Test.YtibmillfankjfaaGreatDoorGrp
namespace Go.Proofs.YtibmillfankjfaaGreatDoor
open Go.RowKit
set_option maxRecDepth 100000

/-- A put into a list that keeps the order of the first puts. -/
def rput (W : Grp) (i : Nat) (s : ByteArray) : Grp := if (glook W i).isSome then W.map (fun x => if x.1 = i then (i, s) else x) else W ++ [(i, s)]

theorem glook_cons (x : Nat × ByteArray) (W : Grp) (j : Nat) : glook (x :: W) j = if x.1 = j then some x.2 else glook W j := by
  simp only [glook, List.find?_cons]
  by_cases h : x.1 = j
  · simp [h]
  · have : (x.1 == j) = false := by simpa using h
    simp [h, this]

theorem glook_append (W : Grp) (x : Nat × ByteArray) (j : Nat) : glook (W ++ [x]) j = (glook W j).or (if x.1 = j then some x.2 else none) := by
  induction W with
  | nil => rw [List.nil_append, glook_cons]; simp [glook]
  | cons y W ih =>
    rw [List.cons_append, glook_cons, glook_cons, ih]
    split <;> simp

theorem glook_map (W : Grp) (i : Nat) (s : ByteArray) (j : Nat) : glook (W.map (fun x => if x.1 = i then (i, s) else x)) j = if i = j then (glook W i).map (fun _ => s) else glook W j := by
  induction W with
  | nil => simp [glook]
  | cons y W ih =>
    rw [List.map_cons, glook_cons, glook_cons, glook_cons, ih]
    by_cases h : y.1 = i
    · by_cases h2 : i = j
      · simp [h, h2]
      · simp [h, h2]
    · by_cases h2 : i = j
      · subst h2; simp [h]
      · simp [h, h2]

theorem glook_rput (W : Grp) (i : Nat) (s : ByteArray) (j : Nat) : glook (rput W i s) j = if i = j then some s else glook W j := by
  unfold rput
  cases h : glook W i with
  | none =>
    simp only [Option.isSome_none, Bool.false_eq_true, if_false]
    rw [glook_append]
    by_cases h2 : i = j
    · subst h2; simp [h]
    · simp [h2]
  | some t =>
    simp only [Option.isSome_some, if_true]
    rw [glook_map, h]
    simp

theorem rput_length (W : Grp) (i : Nat) (s : ByteArray) : (rput W i s).length = if (glook W i).isSome then W.length else W.length + 1 := by
  unfold rput
  split <;> simp

/-- A list of puts that says what a group says. -/
structure RefIs (W g : Grp) : Prop where
  look : ∀ i, glook W i = glook g i
  len : W.length = g.length
  keys : (W.map (·.1)).Nodup

theorem RefIs.nil : RefIs [] [] := ⟨fun _ => rfl, rfl, by simp⟩

theorem glook_noneW {W : Grp} {i : Nat} (h : (glook W i).isSome = false) : i ∉ W.map (·.1) := by
  intro hm
  obtain ⟨x, hx, rfl⟩ := List.mem_map.1 hm
  cases e : W.find? (fun y => y.1 == x.1) with
  | none => have := List.find?_eq_none.1 e x hx; simp at this
  | some y => simp [glook, e] at h

theorem rput_keys (W : Grp) (i : Nat) (s : ByteArray) (h : (W.map (·.1)).Nodup) : ((rput W i s).map (·.1)).Nodup := by
  unfold rput
  split
  · have : (W.map (fun x => if x.1 = i then (i, s) else x)).map (·.1) = W.map (·.1) := by
      rw [List.map_map]
      apply List.map_congr_left
      intro x _
      simp only [Function.comp]
      split
      · rename_i e; exact e.symm
      · rfl
    rw [this]; exact h
  · rename_i hn
    rw [List.map_append, List.nodup_append]
    refine ⟨h, by simp, fun a ha b hb e => ?_⟩
    simp at hb
    subst hb
    exact glook_noneW (by simpa using hn) (e ▸ ha)

theorem RefIs.put {W g : Grp} (h : RefIs W g) (hg : GOk g) (i : Nat) (s : ByteArray) : RefIs (rput W i s) (gput g i s) :=
  ⟨fun j => by rw [glook_rput, glook_put, h.look], by rw [rput_length, gput_length hg, h.look, h.len], rput_keys W i s h.keys⟩

/-- The homes behind a sync of the reference. -/
def rsync (L : List ByteArray) (W : Grp) : List ByteArray := W.foldl (fun l x => l.set x.1 x.2) L

theorem rsync_length (W : Grp) : ∀ L : List ByteArray, (rsync L W).length = L.length := by
  induction W with
  | nil => intro L; rfl
  | cons x W ih => intro L; show (rsync (L.set x.1 x.2) W).length = _; rw [ih]; simp

theorem rsync_at (W : Grp) : ∀ (L : List ByteArray) (i : Nat), (W.map (·.1)).Nodup → i < L.length → (rsync L W).getD i default = (glook W i).getD (L.getD i default) := by
  induction W with
  | nil => intro L i _ _; rfl
  | cons x W ih =>
    intro L i hn hi
    rw [List.map_cons, List.nodup_cons] at hn
    show (rsync (L.set x.1 x.2) W).getD i default = _
    rw [ih _ _ hn.2 (by simpa using hi), glook_cons]
    by_cases h : x.1 = i
    · subst h
      have hw : glook W x.1 = none := by
        cases e : glook W x.1 with
        | none => rfl
        | some t =>
          exfalso
          apply hn.1
          cases e2 : W.find? (fun y => y.1 == x.1) with
          | none => simp [glook, e2] at e
          | some y =>
            have h1 := List.mem_of_find?_eq_some e2
            have h2 := List.find?_some e2
            simp at h2
            exact List.mem_map.2 ⟨y, h1, h2⟩
      rw [hw, if_pos rfl]
      simp [List.getD_eq_getElem?_getD, hi]
    · rw [if_neg h]
      congr 1
      simp [List.getD_eq_getElem?_getD, h]

end Go.Proofs.YtibmillfankjfaaGreatDoor
