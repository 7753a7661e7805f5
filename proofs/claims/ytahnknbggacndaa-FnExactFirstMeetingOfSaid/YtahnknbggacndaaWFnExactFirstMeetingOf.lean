/- FnExactFirstMeetingOf for every argument. -/
import Derived.Test.YtahnknbggacndaaLFnExactFirstMeetingOf
import Derived.Test.YtahnknbggacndaaFmI
import Derived.Test.YtahnknbggacndaaFmS
namespace Go.Proofs.Ytahnknbggacndaa
open Go.RowKit
set_option linter.unusedVariables false
theorem wFnExactFirstMeetingOf (x y : Int) (s : ByteArray) (u v : Int) (t : ByteArray) (w : World) (hs0 : s.size ≤ maxLen) (hs1 : t.size ≤ maxLen) :
    Calls Try.prog 10 #[wayV x y s, wayV u v t] w fun e w' => e = .returned (.bool true) ∧ Below w.heap.size w w' :=
  wFnExactFirstMeetingOf_main x y s hs0 u v t hs1 (dmV x y s u v t) ((fmX x y s u v t).1) ((fmX x y s u v t).2) (Lib.hid fun w => specFirstMeeting_ret x y u v s t w hs0 hs1) (Lib.hid fun w => firstMeetingI_ret x y u v s t w hs0 hs1) w
end Go.Proofs.Ytahnknbggacndaa
