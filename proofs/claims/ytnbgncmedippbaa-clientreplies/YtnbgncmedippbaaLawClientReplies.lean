/- For every reply, what the program's check says of it is what the document says: the law returns true, and the reply reads as it did. No condition. -/
import Derived.Test.YtnbgncmedippbaaDdt
import Derived.Test.YtnbgncmedippbaaOrp
namespace Go.Proofs.Ytnbgncmedippbaa.clientRepliesDone
open Go.ChangeShapes Go.WideShapes Go.ChangeAt Go.RowKit
open Go.Proofs.Ytnbgncmedippbaa
set_option linter.unusedVariables false
set_option maxRecDepth 100000

abbrev repA (code : Int) (text : ByteArray) (n : Int) (ls : Value) : Value := .agg #[.int .i64 code, .string text, .int .i64 n, ls]
abbrev repO (code : Int) (text : ByteArray) (n : Int) (ls : Value) : Obj := .cells #[.int .i64 code, .string text, .int .i64 n, ls] 45
theorem cellsR {w : World} {b : Nat} {cs : Array Value} {t : TypeId} (h : w.heap[b]? = some (.cells cs t (0, 0))) : (∀ o, w.cell? ⟨b, o, none⟩ = cs[o]?) ∧ (∀ o, w.frozen? ⟨b, o, none⟩ = false) := by
  refine ⟨fun o => ?_, fun o => ?_⟩
  · unfold World.cell?; rw [h]; rfl
  · unfold World.frozen?; rw [h]; simp

theorem lt_atR {w : World} {b : Nat} {o : Obj} (h : w.heap[b]? = some o) : b < w.heap.size := (Array.getElem?_eq_some_iff.1 h).1
theorem two_atR (w : World) (o0 o1 : Obj) : ((w.alloc o0).alloc o1).heap[w.heap.size]? = some o0 ∧ ((w.alloc o0).alloc o1).heap[w.heap.size + 1]? = some o1 ∧ Below w.heap.size w ((w.alloc o0).alloc o1) ∧ ((w.alloc o0).alloc o1).heap.size = w.heap.size + 2 := by
  refine ⟨?_, ?_, (balloc _ _).alloc (by simp) _, by simp⟩
  · rw [Below.heap_alloc _ _ _ (by simp)]
    show ((_ : Array Obj).push _)[_]? = _
    simp
  · show ((_ : Array Obj).push _)[_]? = _
    rw [Array.getElem?_push, if_pos (by simp)]
theorem ownT_shape {B : Nat} {w : World} {s : Value} {A : List ByteArray} (h : OwnT B w s A) : ∃ a c, s = .slice a A.length c := by
  rcases h.2 with ⟨h1, h2⟩ | ⟨g, cap, cur, h1, _⟩
  · exact ⟨_, _, by rw [h1, h2]⟩
  · exact ⟨_, _, h1⟩

set_option maxHeartbeats 4000000 in
theorem reply_any (code : Int) (text : ByteArray) (n : Int) (s : Value) (l : List ByteArray) (w : World) (h : RowT w s l) (hm : l.length * 16 ≤ 140737488355328) :
    Calls Try.prog 22 #[repA code text n s] w fun e w' => ∃ r, e = .returned (repA code text n r) ∧ RowAt 1 encI w' r l ∧ Below w.heap.size w w' := by
  obtain ⟨a, c, rfl⟩ : ∃ a c, s = .slice a l.length c := by obtain ⟨-, a, c, rfl, -⟩ := h; exact ⟨_, _, rfl⟩
  obtain ⟨n0, n1, hB0, hs0⟩ := two_atR w (repO code text n (.slice a l.length c)) (repO 0 ⟨#[]⟩ 0 (.slice none 0 0))
  have HR : Hid (RowT ((w.alloc (repO code text n (.slice a l.length c))).alloc (repO 0 ⟨#[]⟩ 0 (.slice none 0 0))) (.slice a l.length c) l) := h.below hB0
  have HN : Hid (((w.alloc (repO code text n (.slice a l.length c))).alloc (repO 0 ⟨#[]⟩ 0 (.slice none 0 0))).heap[w.heap.size]? = some (repO code text n (.slice a l.length c)) ∧ ((w.alloc (repO code text n (.slice a l.length c))).alloc (repO 0 ⟨#[]⟩ 0 (.slice none 0 0))).heap[w.heap.size + 1]? = some (repO 0 ⟨#[]⟩ 0 (.slice none 0 0)) ∧ Below w.heap.size w ((w.alloc (repO code text n (.slice a l.length c))).alloc (repO 0 ⟨#[]⟩ 0 (.slice none 0 0)))) := ⟨n0, n1, hB0⟩
  clear n0 n1 hB0 hs0 h
  go_enter Try.func22, Try.ntmps22
  go_wp2_with (at_builtin; refine wpList_append_texts _ rfl _ _ rfl (w.heap.size + 2) rfl _ l rfl HR.out ?_ ?_ ?_)
  · exact hm
  · simp
  intro v1 w1 hown hg
  have m0 := (hg.block w.heap.size (lt_atR HN.out.1) (by simp)).trans HN.out.1
  have m1 := (hg.block (w.heap.size + 1) (lt_atR HN.out.2.1) (by simp)).trans HN.out.2.1
  have hB1 : Below w.heap.size w w1 := HN.out.2.2.grown hg (by simp; omega) (fun k hk => by cases hk)
  obtain ⟨va, vc, rfl⟩ := ownT_shape hown
  obtain ⟨c0, f0⟩ := cellsR m0
  obtain ⟨c1, f1⟩ := cellsR m1
  have hz0 := lt_atR m0
  have hz1 := lt_atR m1
  clear hg m0 m1 HN HR
  go_wp2_with fail
  refine bodyPost_ret (v := repA code text n (.slice va l.length vc)) (by simp [results, Try.results22, go_sem, c1]) rfl ⟨_, rfl, ?_, ?_⟩
  · refine RowAt.ofOwn (base := w.heap.size + 2) (e := 9) lenT ?_ (by omega)
    refine ownsRow_setCell_below (ownsRow_setCell_below (ownsRow_setCell_below (ownsRow_setCell_below (ownsRow_setCell_below hown ?_ _) ?_ _) ?_ _) ?_ _) ?_ _
    · show w.heap.size < w.heap.size + 2; omega
    all_goals (show w.heap.size + 1 < w.heap.size + 2; omega)
  · exact ((((hB1.setCell (by simp) _).setCell (by simp) _).setCell (by simp) _).setCell (by simp) _).setCell (by simp) _

set_option maxHeartbeats 4000000 in
theorem walk0 (code : Int) (text : ByteArray) (n : Int) (s : Value) (l : List ByteArray) (w : World) (h : RowT w s l) (hm : l.length * 16 ≤ 140737488355328) :
    Calls Try.prog 7 #[repA code text n s] w fun e w' => e = .returned (.bool true) ∧ Below w.heap.size w w' := by
  have HR : Hid (∀ W, Below w.heap.size w W → Calls Try.prog 22 #[repA code text n s] W fun e w' => ∃ r, e = .returned (repA code text n r) ∧ RowAt 1 encI w' r l ∧ Below W.heap.size W w') := fun W hW => reply_any code text n s l W (h.below hW) hm
  have HC : Hid (∀ W r, RowAt 1 encI W r l → Calls Try.prog 21 #[repA code text n r] W fun e w' => e = .returned (.int .i64 (replyFault code text n l)) ∧ Below W.heap.size W w') := fun W r hr => checkReply_any code text n r l W hr
  have HF : Hid (∀ W, Below w.heap.size w W → Calls Try.prog 23 #[repA code text n s] W fun e w' => e = .returned (.int .i64 (replyFault code text n l)) ∧ Below W.heap.size W w') := fun W hW => replyFault_in code text n s l W (h.below hW)
  obtain ⟨a, c, rfl⟩ : ∃ a c, s = .slice a l.length c := by obtain ⟨-, a, c, rfl, -⟩ := h; exact ⟨_, _, rfl⟩
  generalize replyFault code text n l = F at *
  clear h
  go_enter Try.func7, Try.ntmps7
  go_wp2_with fail
  have n0 : (w.alloc (repO code text n (.slice a l.length c))).heap[w.heap.size]? = some (repO code text n (.slice a l.length c)) := by show ((_ : Array Obj).push _)[_]? = _; simp
  have hB0 := balloc w (repO code text n (.slice a l.length c))
  generalize w.alloc (repO code text n (.slice a l.length c)) = V at n0 hB0 ⊢
  refine (HR.out _ hB0).mono ?_
  rintro e w1 ⟨r, rfl, hrow, hb1⟩
  have n1 := (hb1.block _ (lt_atR n0)).trans n0
  have hB1 := bstep hB0 hb1
  clear hb1 n0 hB0 HR
  obtain ⟨ra, rc, hrs⟩ : ∃ a c, r = .slice a l.length c := by obtain ⟨-, a, c, rfl, -⟩ := hrow; exact ⟨_, _, rfl⟩
  subst hrs
  go_wp2_with fail
  refine (HC.out _ _ hrow).mono ?_
  rintro e w2 ⟨rfl, hb2⟩
  have n2 := (hb2.block _ (lt_atR n1)).trans n1
  have hB2 := bstep hB1 hb2
  clear hb2 n1 hB1 HC hrow
  obtain ⟨c2, f2⟩ := cellsR n2
  go_wp2_with fail
  refine (HF.out _ hB2).mono ?_
  rintro e w3 ⟨rfl, hb3⟩
  have hB3 := bstep hB2 hb3
  go_wp2_with fail
  go_ret
  exact ⟨ret_bool (by simp), hB3⟩

theorem walk (v0 : Value) (w : World) (h0 : IsReply w v0) :
    Calls Try.prog 7 #[v0] w fun e w' => e = .returned (.bool true) ∧ Below w.heap.size w w' := by
  obtain ⟨code, text, n, s, l, rfl, k1, k2⟩ := h0
  exact walk0 code text n s l w k1 (Nat.le_trans k2 (by decide))

theorem own : ownKnob Try.prog.godebug = none := by kernel_rfl
theorem laidOut : laidOutB Try.prog = true := by kernel_rfl

set_option maxRecDepth 100000 in
theorem lifted (os : Os) (started : os.Started) (H : Type) (enc : TypeId × Value → H) :
    ReturnsInHanded {} Try.checked os 7 .any (Rows.clientRepliesSpec.pre6 enc Try.prog Try.f7 Rows.clientRepliesRow.domain false) (Rows.clientRepliesSpec.post enc Try.prog Try.f7 false true false false) := by
  refine returnsInHanded_of_change_sized (C := Try.checked) own started (by kernel_rfl) Try.func7
    (ChangeSpec.witness6 (enc := enc) (C := Try.checked) false ⟨#[], #[.agg #[.int .i64 0, .string ByteArray.empty, .int .i64 0, .slice none 0 0]], []⟩ 8 (by kernel_rfl) (by kernel_rfl) (by kernel_rfl) (by kernel_rfl)) ?_
  intro W base args ds gs before hval0 hW hcnd hsz _
  have hval : ∀ (j : Nat) t v, Try.f7.params[j]? = some t → args[j]? = some v → Value.okWide Try.prog W .any base t v := hval0
  have hW' := hW
  obtain ⟨p, q, hA0, hV, rfl, hfz, hnd⟩ := hW
  have hA : DataW.TrodAll enc Try.prog W 0 (fun _ => true) true Try.f7.params.toList args.toList ds p := hA0
  rw [Try.params7] at hA hval
  obtain ⟨v0, vs0, d0, ds0, p0, q0, hargs, rfl, rfl, h0, r0⟩ := trodAll_cons hA
  obtain ⟨rfl, rfl, rfl⟩ := trodAll_nil r0
  obtain rfl : args = #[v0] := by cases args; simp_all
  obtain ⟨rfl, rfl⟩ := trodVars_none hV
  have lt0 : ∀ x ∈ p0, x.block < W.heap.size := by obtain ⟨m, hm⟩ := h0; exact DataW.trod_lt m _ _ _ hm
  have g0 := shape_reply (hval 0 45 v0 rfl rfl) h0 (fun n hn => of_decide_eq_true (List.all_eq_true.1 hsz n (DataW.weights_mem_each (j := 0) rfl rfl n hn)))
  clear hA0 hval0
  refine (walk v0 W g0).mono fun e W' ⟨he, bel⟩ => ?_
  subst he
  exact ⟨_, rfl, _, _, _, [], _, [], hW', trodAll_mk1 (shut_bool Try.underlying4 _), (trodAll_cons_mk (Below.trod laidOut (by kernel_rfl) (of_decide_eq_true (by kernel_rfl)) h0 bel lt0) trodAll_mk0), rfl, bel.frame _, fun h => by cases h⟩

theorem over : Rows.clientRepliesRow.holds Try.pinned (OpenSpec.ofChange Rows.clientRepliesSpec) :=
  OpenClaim.holds_of_wide 7 Try.f7 rfl rfl rfl rfl rfl rfl rfl ⟨rfl, rfl, rfl, rfl, rfl⟩ rfl rfl rfl rfl rfl (by kernel_rfl) Try.func7 (by kernel_rfl)
    (of_decide_eq_true (by kernel_rfl)) (by unfold Func.isWrapper; first | (rw [if_pos (by decide +kernel)]; kernel_rfl) | (rw [if_neg (by decide +kernel)]; exact ⟨rfl, rfl⟩))
    (fun os started H enc _ => lifted os started H enc)

end Go.Proofs.Ytnbgncmedippbaa.clientRepliesDone
namespace Go.Proofs.Ytnbgncmedippbaa
theorem ClientReplies_holds : Rows.ClientRepliesSaid := clientRepliesDone.over
end Go.Proofs.Ytnbgncmedippbaa
