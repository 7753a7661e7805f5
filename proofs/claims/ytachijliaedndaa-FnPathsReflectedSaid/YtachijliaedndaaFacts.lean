/- Facts on the loaded program that every claim of this seat needs. -/
import Derived.Test.YtachijliaedndaaRows
import Derived.JoinedOf
namespace Go.Proofs.Ytachijliaedndaa
set_option maxRecDepth 100000
/-- the signs of the word that tells how the program was cut -/
def cutWord : List Char := [Char.ofNat 104, Char.ofNat 97, Char.ofNat 114, Char.ofNat 110, Char.ofNat 101, Char.ofNat 115, Char.ofNat 115, Char.ofNat 32, Char.ofNat 100, Char.ofNat 98, Char.ofNat 98, Char.ofNat 56, Char.ofNat 49, Char.ofNat 57, Char.ofNat 53, Char.ofNat 98, Char.ofNat 52, Char.ofNat 50, Char.ofNat 55, Char.ofNat 54,
  Char.ofNat 49, Char.ofNat 56, Char.ofNat 101, Char.ofNat 57, Char.ofNat 99, Char.ofNat 53, Char.ofNat 49, Char.ofNat 53, Char.ofNat 98, Char.ofNat 54, Char.ofNat 49, Char.ofNat 50, Char.ofNat 53, Char.ofNat 97, Char.ofNat 53, Char.ofNat 98, Char.ofNat 99, Char.ofNat 102, Char.ofNat 101, Char.ofNat 54,
  Char.ofNat 99, Char.ofNat 99, Char.ofNat 102, Char.ofNat 98, Char.ofNat 49, Char.ofNat 49, Char.ofNat 53, Char.ofNat 52, Char.ofNat 99, Char.ofNat 55, Char.ofNat 100, Char.ofNat 102, Char.ofNat 54, Char.ofNat 101, Char.ofNat 51, Char.ofNat 48, Char.ofNat 97, Char.ofNat 53, Char.ofNat 101, Char.ofNat 53,
  Char.ofNat 50, Char.ofNat 52, Char.ofNat 53, Char.ofNat 50, Char.ofNat 98, Char.ofNat 57, Char.ofNat 51, Char.ofNat 102, Char.ofNat 56, Char.ofNat 51, Char.ofNat 48, Char.ofNat 49, Char.ofNat 32, Char.ofNat 99, Char.ofNat 117, Char.ofNat 116, Char.ofNat 32, Char.ofNat 97, Char.ofNat 116, Char.ofNat 32,
  Char.ofNat 108, Char.ofNat 111, Char.ofNat 111, Char.ofNat 112, Char.ofNat 46, Char.ofNat 101, Char.ofNat 120, Char.ofNat 97, Char.ofNat 109, Char.ofNat 112, Char.ofNat 108, Char.ofNat 101, Char.ofNat 47, Char.ofNat 103, Char.ofNat 48, Char.ofNat 49, Char.ofNat 50, Char.ofNat 49, Char.ofNat 56, Char.ofNat 47,
  Char.ofNat 108, Char.ofNat 97, Char.ofNat 119, Char.ofNat 115, Char.ofNat 46, Char.ofNat 70, Char.ofNat 110, Char.ofNat 80, Char.ofNat 97, Char.ofNat 116, Char.ofNat 104, Char.ofNat 115, Char.ofNat 82, Char.ofNat 101, Char.ofNat 102, Char.ofNat 108, Char.ofNat 101, Char.ofNat 99, Char.ofNat 116, Char.ofNat 101,
  Char.ofNat 100, Char.ofNat 32, Char.ofNat 108, Char.ofNat 111, Char.ofNat 111, Char.ofNat 112, Char.ofNat 46, Char.ofNat 101, Char.ofNat 120, Char.ofNat 97, Char.ofNat 109, Char.ofNat 112, Char.ofNat 108, Char.ofNat 101, Char.ofNat 47, Char.ofNat 103, Char.ofNat 48, Char.ofNat 49, Char.ofNat 50, Char.ofNat 49,
  Char.ofNat 56, Char.ofNat 47, Char.ofNat 108, Char.ofNat 97, Char.ofNat 119, Char.ofNat 115, Char.ofNat 46, Char.ofNat 70, Char.ofNat 110, Char.ofNat 82, Char.ofNat 117, Char.ofNat 105, Char.ofNat 110, Char.ofNat 65, Char.ofNat 100, Char.ofNat 100, Char.ofNat 115, Char.ofNat 85, Char.ofNat 112, Char.ofNat 32,
  Char.ofNat 108, Char.ofNat 111, Char.ofNat 111, Char.ofNat 112, Char.ofNat 46, Char.ofNat 101, Char.ofNat 120, Char.ofNat 97, Char.ofNat 109, Char.ofNat 112, Char.ofNat 108, Char.ofNat 101, Char.ofNat 47, Char.ofNat 103, Char.ofNat 48, Char.ofNat 49, Char.ofNat 50, Char.ofNat 49, Char.ofNat 56, Char.ofNat 47,
  Char.ofNat 108, Char.ofNat 97, Char.ofNat 119, Char.ofNat 115, Char.ofNat 46, Char.ofNat 70, Char.ofNat 110, Char.ofNat 82, Char.ofNat 101, Char.ofNat 99, Char.ofNat 111, Char.ofNat 114, Char.ofNat 100, Char.ofNat 115, Char.ofNat 84, Char.ofNat 111, Char.ofNat 108, Char.ofNat 100, Char.ofNat 32, Char.ofNat 108,
  Char.ofNat 111, Char.ofNat 111, Char.ofNat 112, Char.ofNat 46, Char.ofNat 101, Char.ofNat 120, Char.ofNat 97, Char.ofNat 109, Char.ofNat 112, Char.ofNat 108, Char.ofNat 101, Char.ofNat 47, Char.ofNat 103, Char.ofNat 48, Char.ofNat 49, Char.ofNat 50, Char.ofNat 49, Char.ofNat 56, Char.ofNat 47, Char.ofNat 108,
  Char.ofNat 97, Char.ofNat 119, Char.ofNat 115, Char.ofNat 46, Char.ofNat 70, Char.ofNat 110, Char.ofNat 84, Char.ofNat 111, Char.ofNat 117, Char.ofNat 99, Char.ofNat 104, Char.ofNat 101, Char.ofNat 115, Char.ofNat 67, Char.ofNat 111, Char.ofNat 117, Char.ofNat 110, Char.ofNat 116, Char.ofNat 101, Char.ofNat 100,
  Char.ofNat 32, Char.ofNat 108, Char.ofNat 111, Char.ofNat 111, Char.ofNat 112, Char.ofNat 46, Char.ofNat 101, Char.ofNat 120, Char.ofNat 97, Char.ofNat 109, Char.ofNat 112, Char.ofNat 108, Char.ofNat 101, Char.ofNat 47, Char.ofNat 103, Char.ofNat 48, Char.ofNat 49, Char.ofNat 50, Char.ofNat 49, Char.ofNat 56,
  Char.ofNat 47, Char.ofNat 108, Char.ofNat 97, Char.ofNat 119, Char.ofNat 115, Char.ofNat 46, Char.ofNat 70, Char.ofNat 110, Char.ofNat 86, Char.ofNat 111, Char.ofNat 116, Char.ofNat 101, Char.ofNat 115, Char.ofNat 70, Char.ofNat 111, Char.ofNat 108, Char.ofNat 108, Char.ofNat 111, Char.ofNat 119, Char.ofNat 101,
  Char.ofNat 100, Char.ofNat 32, Char.ofNat 108, Char.ofNat 111, Char.ofNat 111, Char.ofNat 112, Char.ofNat 46, Char.ofNat 101, Char.ofNat 120, Char.ofNat 97, Char.ofNat 109, Char.ofNat 112, Char.ofNat 108, Char.ofNat 101, Char.ofNat 47, Char.ofNat 103, Char.ofNat 48, Char.ofNat 49, Char.ofNat 50, Char.ofNat 49,
  Char.ofNat 56, Char.ofNat 47, Char.ofNat 108, Char.ofNat 97, Char.ofNat 119, Char.ofNat 115, Char.ofNat 46, Char.ofNat 70, Char.ofNat 110, Char.ofNat 82, Char.ofNat 117, Char.ofNat 105, Char.ofNat 110, Char.ofNat 73, Char.ofNat 110, Char.ofNat 84, Char.ofNat 105, Char.ofNat 109, Char.ofNat 101]
theorem cut_word : Try.prog.initOrder = "harness dbb8195b427618e9c515b6125a5bcfe6ccfb1154c7df6e30a5e52452b93f8301 cut at loop.example/g01218/laws.FnPathsReflected loop.example/g01218/laws.FnRuinAddsUp loop.example/g01218/laws.FnRecordsTold loop.example/g01218/laws.FnTouchesCounted loop.example/g01218/laws.FnVotesFollowed loop.example/g01218/laws.FnRuinInTime" := by kernel_rfl
theorem cut_signs : ("harness dbb8195b427618e9c515b6125a5bcfe6ccfb1154c7df6e30a5e52452b93f8301 cut at loop.example/g01218/laws.FnPathsReflected loop.example/g01218/laws.FnRuinAddsUp loop.example/g01218/laws.FnRecordsTold loop.example/g01218/laws.FnTouchesCounted loop.example/g01218/laws.FnVotesFollowed loop.example/g01218/laws.FnRuinInTime" : String) = String.ofList cutWord := by kernel_rfl
theorem cut_list : Try.prog.initOrder.toList = cutWord := (congrArg String.toList (cut_word.trans cut_signs)).trans String.toList_ofList
theorem cut_head : behindMainWord (wordsSigns cutWord) = "cut".toList :: (behindMainWord (wordsSigns cutWord)).tail := by kernel_rfl
theorem strip_cut (R : List (List Char)) : stripLifts liftWords ("cut".toList :: R) = ([], "cut".toList :: R) := by kernel_rfl
theorem headLifts_of {P : Program} {L : List Char} {R : List (List Char)} (h : P.initOrder.toList = L) (hw : behindMainWord (wordsSigns L) = "cut".toList :: R) : P.headLifts = [] := by
  unfold Program.headLifts; rw [h, hw, strip_cut]; rfl
theorem make_of {P : Program} {L : List Char} {R : List (List Char)} (h : P.initOrder.toList = L) (hw : behindMainWord (wordsSigns L) = "cut".toList :: R) : P.make = some .cut := by
  unfold Program.make; rw [h, hw]; rfl
theorem lifts_of {P : Program} {L : List Char} {R : List (List Char)} (h : P.initOrder.toList = L) (hw : behindMainWord (wordsSigns L) = "cut".toList :: R) : P.liftsFinal = false := by
  unfold Program.liftsFinal; rw [headLifts_of h hw, h, hw]; rfl
theorem mayEnter_of {P : Program} {L : List Char} {R : List (List Char)} (h : P.initOrder.toList = L) (hw : behindMainWord (wordsSigns L) = "cut".toList :: R) (h1 : P.laysLater = false) (h2 : P.bearsReflect = false) (h3 : P.doorFits [] = true) : P.mayEnter = true := by
  unfold Program.mayEnter; rw [h, hw]
  simp only [strip_cut, h1, h2, h3]
  rfl
theorem may_enter : Try.prog.mayEnter = true := mayEnter_of cut_list cut_head (by kernel_rfl) (by kernel_rfl) (by kernel_rfl)
theorem lifts_final : Try.prog.liftsFinal = false := lifts_of cut_list cut_head
theorem make_is : Try.prog.make = some .cut := make_of cut_list cut_head
theorem laid_out : laidOutB Try.prog = true := by kernel_rfl

theorem and_mk {a b : Bool} (h : a = true) (k : b = true) : (a && b) = true := by rw [h, k]; rfl
theorem lifted_is {c : Bool} {P : Program} (h : P.liftsFinal = c) : (c == P.liftsFinal) = true := by rw [h]; cases c <;> rfl
theorem made_is {c : Make} {P : Program} (h : P.make = some c) : (P.make == some c) = true := by rw [h]; exact beq_self_eq_true _
end Go.Proofs.Ytachijliaedndaa
