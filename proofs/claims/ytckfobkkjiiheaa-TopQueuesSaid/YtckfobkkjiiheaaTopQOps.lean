/- What TopQueues calls of packages drr and rounds. No statement is proved here. -/
import Derived.Test.YtckfobkkjiiheaaTopQMath
import Derived.Test.YtckfobkkjiiheaaRows0
import Derived.Test.YtckfobkkjiiheaaOwnI
import Derived.Test.YtckfobkkjiiheaaDrr4
import Derived.Test.YtckfobkkjiiheaaRoundsRun
