/- codec: the reference's comparison: the order of its head's operations. (made by tools/genre3.py) -/
import Derived.Test.YtpefkellcigpkaaCdFr
namespace Go.Proofs.Ytpefkellcigpkaa.Cd
open Go.RowKit Go.Deep Go.Proofs.Ytpefkellcigpkaa
set_option maxRecDepth 100000
set_option maxHeartbeats 4000000

noncomputable def headOps : Array Oper := match rgEq 3 with
  | .region _ ops _ => ops
  | _ => #[]
theorem lex_head (l : List Oper) (hl : rgEq 3 = Code.region 3 l.toArray true) : Region.lexB .any l.toArray = true := by
  have e : l.toArray = headOps := by unfold headOps; rw [hl]
  rw [e]
  refine lex_of (n := 109) (listed := (List.replicate 0 true ++ List.replicate 109 false).toArray) (by kernel_rfl) (by kernel_rfl) (by kernel_rfl) ?_
  refine lex_cons (listed' := (List.replicate 1 true ++ List.replicate 108 false).toArray) (by kernel_rfl) (by as_aux_lemma => kernel_rfl) ?_
  refine lex_cons (listed' := (List.replicate 2 true ++ List.replicate 107 false).toArray) (by kernel_rfl) (by as_aux_lemma => kernel_rfl) ?_
  refine lex_cons (listed' := (List.replicate 3 true ++ List.replicate 106 false).toArray) (by kernel_rfl) (by as_aux_lemma => kernel_rfl) ?_
  refine lex_cons (listed' := (List.replicate 4 true ++ List.replicate 105 false).toArray) (by kernel_rfl) (by as_aux_lemma => kernel_rfl) ?_
  refine lex_cons (listed' := (List.replicate 5 true ++ List.replicate 104 false).toArray) (by kernel_rfl) (by as_aux_lemma => kernel_rfl) ?_
  refine lex_cons (listed' := (List.replicate 6 true ++ List.replicate 103 false).toArray) (by kernel_rfl) (by as_aux_lemma => kernel_rfl) ?_
  refine lex_cons (listed' := (List.replicate 7 true ++ List.replicate 102 false).toArray) (by kernel_rfl) (by as_aux_lemma => kernel_rfl) ?_
  refine lex_cons (listed' := (List.replicate 8 true ++ List.replicate 101 false).toArray) (by kernel_rfl) (by as_aux_lemma => kernel_rfl) ?_
  refine lex_cons (listed' := (List.replicate 9 true ++ List.replicate 100 false).toArray) (by kernel_rfl) (by as_aux_lemma => kernel_rfl) ?_
  refine lex_cons (listed' := (List.replicate 10 true ++ List.replicate 99 false).toArray) (by kernel_rfl) (by as_aux_lemma => kernel_rfl) ?_
  refine lex_cons (listed' := (List.replicate 11 true ++ List.replicate 98 false).toArray) (by kernel_rfl) (by as_aux_lemma => kernel_rfl) ?_
  refine lex_cons (listed' := (List.replicate 12 true ++ List.replicate 97 false).toArray) (by kernel_rfl) (by as_aux_lemma => kernel_rfl) ?_
  refine lex_cons (listed' := (List.replicate 13 true ++ List.replicate 96 false).toArray) (by kernel_rfl) (by as_aux_lemma => kernel_rfl) ?_
  refine lex_cons (listed' := (List.replicate 14 true ++ List.replicate 95 false).toArray) (by kernel_rfl) (by as_aux_lemma => kernel_rfl) ?_
  refine lex_cons (listed' := (List.replicate 15 true ++ List.replicate 94 false).toArray) (by kernel_rfl) (by as_aux_lemma => kernel_rfl) ?_
  refine lex_cons (listed' := (List.replicate 16 true ++ List.replicate 93 false).toArray) (by kernel_rfl) (by as_aux_lemma => kernel_rfl) ?_
  refine lex_cons (listed' := (List.replicate 17 true ++ List.replicate 92 false).toArray) (by kernel_rfl) (by as_aux_lemma => kernel_rfl) ?_
  refine lex_cons (listed' := (List.replicate 18 true ++ List.replicate 91 false).toArray) (by kernel_rfl) (by as_aux_lemma => kernel_rfl) ?_
  refine lex_cons (listed' := (List.replicate 19 true ++ List.replicate 90 false).toArray) (by kernel_rfl) (by as_aux_lemma => kernel_rfl) ?_
  refine lex_cons (listed' := (List.replicate 20 true ++ List.replicate 89 false).toArray) (by kernel_rfl) (by as_aux_lemma => kernel_rfl) ?_
  refine lex_cons (listed' := (List.replicate 21 true ++ List.replicate 88 false).toArray) (by kernel_rfl) (by as_aux_lemma => kernel_rfl) ?_
  refine lex_cons (listed' := (List.replicate 22 true ++ List.replicate 87 false).toArray) (by kernel_rfl) (by as_aux_lemma => kernel_rfl) ?_
  refine lex_cons (listed' := (List.replicate 23 true ++ List.replicate 86 false).toArray) (by kernel_rfl) (by as_aux_lemma => kernel_rfl) ?_
  refine lex_cons (listed' := (List.replicate 24 true ++ List.replicate 85 false).toArray) (by kernel_rfl) (by as_aux_lemma => kernel_rfl) ?_
  refine lex_cons (listed' := (List.replicate 25 true ++ List.replicate 84 false).toArray) (by kernel_rfl) (by as_aux_lemma => kernel_rfl) ?_
  refine lex_cons (listed' := (List.replicate 26 true ++ List.replicate 83 false).toArray) (by kernel_rfl) (by as_aux_lemma => kernel_rfl) ?_
  refine lex_cons (listed' := (List.replicate 27 true ++ List.replicate 82 false).toArray) (by kernel_rfl) (by as_aux_lemma => kernel_rfl) ?_
  refine lex_cons (listed' := (List.replicate 28 true ++ List.replicate 81 false).toArray) (by kernel_rfl) (by as_aux_lemma => kernel_rfl) ?_
  refine lex_cons (listed' := (List.replicate 29 true ++ List.replicate 80 false).toArray) (by kernel_rfl) (by as_aux_lemma => kernel_rfl) ?_
  refine lex_cons (listed' := (List.replicate 30 true ++ List.replicate 79 false).toArray) (by kernel_rfl) (by as_aux_lemma => kernel_rfl) ?_
  refine lex_cons (listed' := (List.replicate 31 true ++ List.replicate 78 false).toArray) (by kernel_rfl) (by as_aux_lemma => kernel_rfl) ?_
  refine lex_cons (listed' := (List.replicate 32 true ++ List.replicate 77 false).toArray) (by kernel_rfl) (by as_aux_lemma => kernel_rfl) ?_
  refine lex_cons (listed' := (List.replicate 33 true ++ List.replicate 76 false).toArray) (by kernel_rfl) (by as_aux_lemma => kernel_rfl) ?_
  refine lex_cons (listed' := (List.replicate 34 true ++ List.replicate 75 false).toArray) (by kernel_rfl) (by as_aux_lemma => kernel_rfl) ?_
  refine lex_cons (listed' := (List.replicate 35 true ++ List.replicate 74 false).toArray) (by kernel_rfl) (by as_aux_lemma => kernel_rfl) ?_
  refine lex_cons (listed' := (List.replicate 36 true ++ List.replicate 73 false).toArray) (by kernel_rfl) (by as_aux_lemma => kernel_rfl) ?_
  refine lex_cons (listed' := (List.replicate 37 true ++ List.replicate 72 false).toArray) (by kernel_rfl) (by as_aux_lemma => kernel_rfl) ?_
  refine lex_cons (listed' := (List.replicate 38 true ++ List.replicate 71 false).toArray) (by kernel_rfl) (by as_aux_lemma => kernel_rfl) ?_
  refine lex_cons (listed' := (List.replicate 39 true ++ List.replicate 70 false).toArray) (by kernel_rfl) (by as_aux_lemma => kernel_rfl) ?_
  refine lex_cons (listed' := (List.replicate 40 true ++ List.replicate 69 false).toArray) (by kernel_rfl) (by as_aux_lemma => kernel_rfl) ?_
  refine lex_cons (listed' := (List.replicate 41 true ++ List.replicate 68 false).toArray) (by kernel_rfl) (by as_aux_lemma => kernel_rfl) ?_
  refine lex_cons (listed' := (List.replicate 42 true ++ List.replicate 67 false).toArray) (by kernel_rfl) (by as_aux_lemma => kernel_rfl) ?_
  refine lex_cons (listed' := (List.replicate 43 true ++ List.replicate 66 false).toArray) (by kernel_rfl) (by as_aux_lemma => kernel_rfl) ?_
  refine lex_cons (listed' := (List.replicate 44 true ++ List.replicate 65 false).toArray) (by kernel_rfl) (by as_aux_lemma => kernel_rfl) ?_
  refine lex_cons (listed' := (List.replicate 45 true ++ List.replicate 64 false).toArray) (by kernel_rfl) (by as_aux_lemma => kernel_rfl) ?_
  refine lex_cons (listed' := (List.replicate 46 true ++ List.replicate 63 false).toArray) (by kernel_rfl) (by as_aux_lemma => kernel_rfl) ?_
  refine lex_cons (listed' := (List.replicate 47 true ++ List.replicate 62 false).toArray) (by kernel_rfl) (by as_aux_lemma => kernel_rfl) ?_
  refine lex_cons (listed' := (List.replicate 48 true ++ List.replicate 61 false).toArray) (by kernel_rfl) (by as_aux_lemma => kernel_rfl) ?_
  refine lex_cons (listed' := (List.replicate 49 true ++ List.replicate 60 false).toArray) (by kernel_rfl) (by as_aux_lemma => kernel_rfl) ?_
  refine lex_cons (listed' := (List.replicate 50 true ++ List.replicate 59 false).toArray) (by kernel_rfl) (by as_aux_lemma => kernel_rfl) ?_
  refine lex_cons (listed' := (List.replicate 51 true ++ List.replicate 58 false).toArray) (by kernel_rfl) (by as_aux_lemma => kernel_rfl) ?_
  refine lex_cons (listed' := (List.replicate 52 true ++ List.replicate 57 false).toArray) (by kernel_rfl) (by as_aux_lemma => kernel_rfl) ?_
  refine lex_cons (listed' := (List.replicate 53 true ++ List.replicate 56 false).toArray) (by kernel_rfl) (by as_aux_lemma => kernel_rfl) ?_
  refine lex_cons (listed' := (List.replicate 54 true ++ List.replicate 55 false).toArray) (by kernel_rfl) (by as_aux_lemma => kernel_rfl) ?_
  refine lex_cons (listed' := (List.replicate 55 true ++ List.replicate 54 false).toArray) (by kernel_rfl) (by as_aux_lemma => kernel_rfl) ?_
  refine lex_cons (listed' := (List.replicate 56 true ++ List.replicate 53 false).toArray) (by kernel_rfl) (by as_aux_lemma => kernel_rfl) ?_
  refine lex_cons (listed' := (List.replicate 57 true ++ List.replicate 52 false).toArray) (by kernel_rfl) (by as_aux_lemma => kernel_rfl) ?_
  refine lex_cons (listed' := (List.replicate 58 true ++ List.replicate 51 false).toArray) (by kernel_rfl) (by as_aux_lemma => kernel_rfl) ?_
  refine lex_cons (listed' := (List.replicate 59 true ++ List.replicate 50 false).toArray) (by kernel_rfl) (by as_aux_lemma => kernel_rfl) ?_
  refine lex_cons (listed' := (List.replicate 60 true ++ List.replicate 49 false).toArray) (by kernel_rfl) (by as_aux_lemma => kernel_rfl) ?_
  refine lex_cons (listed' := (List.replicate 61 true ++ List.replicate 48 false).toArray) (by kernel_rfl) (by as_aux_lemma => kernel_rfl) ?_
  refine lex_cons (listed' := (List.replicate 62 true ++ List.replicate 47 false).toArray) (by kernel_rfl) (by as_aux_lemma => kernel_rfl) ?_
  refine lex_cons (listed' := (List.replicate 63 true ++ List.replicate 46 false).toArray) (by kernel_rfl) (by as_aux_lemma => kernel_rfl) ?_
  refine lex_cons (listed' := (List.replicate 64 true ++ List.replicate 45 false).toArray) (by kernel_rfl) (by as_aux_lemma => kernel_rfl) ?_
  refine lex_cons (listed' := (List.replicate 65 true ++ List.replicate 44 false).toArray) (by kernel_rfl) (by as_aux_lemma => kernel_rfl) ?_
  refine lex_cons (listed' := (List.replicate 66 true ++ List.replicate 43 false).toArray) (by kernel_rfl) (by as_aux_lemma => kernel_rfl) ?_
  refine lex_cons (listed' := (List.replicate 67 true ++ List.replicate 42 false).toArray) (by kernel_rfl) (by as_aux_lemma => kernel_rfl) ?_
  refine lex_cons (listed' := (List.replicate 68 true ++ List.replicate 41 false).toArray) (by kernel_rfl) (by as_aux_lemma => kernel_rfl) ?_
  refine lex_cons (listed' := (List.replicate 69 true ++ List.replicate 40 false).toArray) (by kernel_rfl) (by as_aux_lemma => kernel_rfl) ?_
  refine lex_cons (listed' := (List.replicate 70 true ++ List.replicate 39 false).toArray) (by kernel_rfl) (by as_aux_lemma => kernel_rfl) ?_
  refine lex_cons (listed' := (List.replicate 71 true ++ List.replicate 38 false).toArray) (by kernel_rfl) (by as_aux_lemma => kernel_rfl) ?_
  refine lex_cons (listed' := (List.replicate 72 true ++ List.replicate 37 false).toArray) (by kernel_rfl) (by as_aux_lemma => kernel_rfl) ?_
  refine lex_cons (listed' := (List.replicate 73 true ++ List.replicate 36 false).toArray) (by kernel_rfl) (by as_aux_lemma => kernel_rfl) ?_
  refine lex_cons (listed' := (List.replicate 74 true ++ List.replicate 35 false).toArray) (by kernel_rfl) (by as_aux_lemma => kernel_rfl) ?_
  refine lex_cons (listed' := (List.replicate 75 true ++ List.replicate 34 false).toArray) (by kernel_rfl) (by as_aux_lemma => kernel_rfl) ?_
  refine lex_cons (listed' := (List.replicate 76 true ++ List.replicate 33 false).toArray) (by kernel_rfl) (by as_aux_lemma => kernel_rfl) ?_
  refine lex_cons (listed' := (List.replicate 77 true ++ List.replicate 32 false).toArray) (by kernel_rfl) (by as_aux_lemma => kernel_rfl) ?_
  refine lex_cons (listed' := (List.replicate 78 true ++ List.replicate 31 false).toArray) (by kernel_rfl) (by as_aux_lemma => kernel_rfl) ?_
  refine lex_cons (listed' := (List.replicate 79 true ++ List.replicate 30 false).toArray) (by kernel_rfl) (by as_aux_lemma => kernel_rfl) ?_
  refine lex_cons (listed' := (List.replicate 80 true ++ List.replicate 29 false).toArray) (by kernel_rfl) (by as_aux_lemma => kernel_rfl) ?_
  refine lex_cons (listed' := (List.replicate 81 true ++ List.replicate 28 false).toArray) (by kernel_rfl) (by as_aux_lemma => kernel_rfl) ?_
  refine lex_cons (listed' := (List.replicate 82 true ++ List.replicate 27 false).toArray) (by kernel_rfl) (by as_aux_lemma => kernel_rfl) ?_
  refine lex_cons (listed' := (List.replicate 83 true ++ List.replicate 26 false).toArray) (by kernel_rfl) (by as_aux_lemma => kernel_rfl) ?_
  refine lex_cons (listed' := (List.replicate 84 true ++ List.replicate 25 false).toArray) (by kernel_rfl) (by as_aux_lemma => kernel_rfl) ?_
  refine lex_cons (listed' := (List.replicate 85 true ++ List.replicate 24 false).toArray) (by kernel_rfl) (by as_aux_lemma => kernel_rfl) ?_
  refine lex_cons (listed' := (List.replicate 86 true ++ List.replicate 23 false).toArray) (by kernel_rfl) (by as_aux_lemma => kernel_rfl) ?_
  refine lex_cons (listed' := (List.replicate 87 true ++ List.replicate 22 false).toArray) (by kernel_rfl) (by as_aux_lemma => kernel_rfl) ?_
  refine lex_cons (listed' := (List.replicate 88 true ++ List.replicate 21 false).toArray) (by kernel_rfl) (by as_aux_lemma => kernel_rfl) ?_
  refine lex_cons (listed' := (List.replicate 89 true ++ List.replicate 20 false).toArray) (by kernel_rfl) (by as_aux_lemma => kernel_rfl) ?_
  refine lex_cons (listed' := (List.replicate 90 true ++ List.replicate 19 false).toArray) (by kernel_rfl) (by as_aux_lemma => kernel_rfl) ?_
  refine lex_cons (listed' := (List.replicate 91 true ++ List.replicate 18 false).toArray) (by kernel_rfl) (by as_aux_lemma => kernel_rfl) ?_
  refine lex_cons (listed' := (List.replicate 92 true ++ List.replicate 17 false).toArray) (by kernel_rfl) (by as_aux_lemma => kernel_rfl) ?_
  refine lex_cons (listed' := (List.replicate 93 true ++ List.replicate 16 false).toArray) (by kernel_rfl) (by as_aux_lemma => kernel_rfl) ?_
  refine lex_cons (listed' := (List.replicate 94 true ++ List.replicate 15 false).toArray) (by kernel_rfl) (by as_aux_lemma => kernel_rfl) ?_
  refine lex_cons (listed' := (List.replicate 95 true ++ List.replicate 14 false).toArray) (by kernel_rfl) (by as_aux_lemma => kernel_rfl) ?_
  refine lex_cons (listed' := (List.replicate 96 true ++ List.replicate 13 false).toArray) (by kernel_rfl) (by as_aux_lemma => kernel_rfl) ?_
  refine lex_cons (listed' := (List.replicate 97 true ++ List.replicate 12 false).toArray) (by kernel_rfl) (by as_aux_lemma => kernel_rfl) ?_
  refine lex_cons (listed' := (List.replicate 98 true ++ List.replicate 11 false).toArray) (by kernel_rfl) (by as_aux_lemma => kernel_rfl) ?_
  refine lex_cons (listed' := (List.replicate 99 true ++ List.replicate 10 false).toArray) (by kernel_rfl) (by as_aux_lemma => kernel_rfl) ?_
  refine lex_cons (listed' := (List.replicate 100 true ++ List.replicate 9 false).toArray) (by kernel_rfl) (by as_aux_lemma => kernel_rfl) ?_
  refine lex_cons (listed' := (List.replicate 101 true ++ List.replicate 8 false).toArray) (by kernel_rfl) (by as_aux_lemma => kernel_rfl) ?_
  refine lex_cons (listed' := (List.replicate 102 true ++ List.replicate 7 false).toArray) (by kernel_rfl) (by as_aux_lemma => kernel_rfl) ?_
  refine lex_cons (listed' := (List.replicate 103 true ++ List.replicate 6 false).toArray) (by kernel_rfl) (by as_aux_lemma => kernel_rfl) ?_
  refine lex_cons (listed' := (List.replicate 104 true ++ List.replicate 5 false).toArray) (by kernel_rfl) (by as_aux_lemma => kernel_rfl) ?_
  refine lex_cons (listed' := (List.replicate 105 true ++ List.replicate 4 false).toArray) (by kernel_rfl) (by as_aux_lemma => kernel_rfl) ?_
  refine lex_cons (listed' := (List.replicate 106 true ++ List.replicate 3 false).toArray) (by kernel_rfl) (by as_aux_lemma => kernel_rfl) ?_
  refine lex_cons (listed' := (List.replicate 107 true ++ List.replicate 2 false).toArray) (by kernel_rfl) (by as_aux_lemma => kernel_rfl) ?_
  refine lex_cons (listed' := (List.replicate 108 true ++ List.replicate 1 false).toArray) (by kernel_rfl) (by as_aux_lemma => kernel_rfl) ?_
  refine lex_cons (listed' := (List.replicate 109 true ++ List.replicate 0 false).toArray) (by kernel_rfl) (by as_aux_lemma => kernel_rfl) ?_
  kernel_rfl

end Go.Proofs.Ytpefkellcigpkaa.Cd
